/- What the specification's LevelSign answers: -1 where the level is not valid, else when its number is 0. -/
import Derived.Test.YtnifepmaijfllaaTriesW
import Derived.Test.YtnifepmaijfllaaSpec
import Derived.Test.YtnifepmaijfllaaSign
namespace Go.Proofs.Ytnifepmaijfllaa
open Go.ChangeShapes Go.WideShapes Go.ChangeAt Go.RowKit

theorem hasB_app {a b : List ByteArray} {x : ByteArray} (h : hasB a x = true) : hasB (a ++ b) x = true := by
  unfold hasB at h ⊢
  rw [List.any_append, h]; rfl
theorem addS_has {ss : List ByteArray} {k : Int} {s x : ByteArray} (h : hasB ss x = true) : hasB (addS ss k s) x = true := by
  unfold addS; split
  · exact hasB_app h
  · exact h
theorem addS_own (ss : List ByteArray) (s : ByteArray) : hasB (addS ss 5 s) s = true := by
  unfold addS
  by_cases h : hasB ss s = false
  · rw [if_pos ⟨rfl, h⟩]; unfold hasB; simp
  · rw [if_neg (by simp [h])]; simpa using h
theorem names_has : ∀ (t : Tr) (ss : List ByteArray) (x : ByteArray), hasB ss x = true → hasB (t.names ss) x = true
  | .leaf _ _, _, _, h => addS_has h
  | .one _ _ a, _, x, h => names_has a _ x (addS_has h)
  | .two _ _ a b, _, x, h => names_has b _ x (names_has a _ x (addS_has h))
theorem names_params : ∀ (t : Tr) (ss : List ByteArray), ∀ x ∈ t.params, hasB (t.names ss) x = true
  | .leaf k s, ss, x, hx => by
    simp only [Tr.params] at hx
    split at hx
    · rename_i h5
      simp at hx
      subst hx h5
      exact addS_own ss x
    · simp at hx
  | .one k s a, ss, x, hx => names_params a _ x hx
  | .two k s a b, ss, x, hx => by
    simp only [Tr.params, List.mem_append] at hx
    rcases hx with hx | hx
    · exact names_has b _ x (names_params a _ x hx)
    · exact names_params b _ x hx

theorem countP_snoc {α : Type} (p : α → Bool) (l : List α) (k : Nat) (h : k < l.length) : (l.take (k + 1)).countP p = (l.take k).countP p + (if p l[k] then 1 else 0) := by
  rw [List.take_succ_eq_append_getElem h, List.countP_append]
  simp [List.countP_cons]

set_option maxHeartbeats 2000000 in
theorem l1Sign_any (t : Tr) (g : Nat) (w : World) (ht : TreeAt w.heap.size w g t) (hok : t.ok) (hc : t.cnt ≤ 64) (hn : (t.names []).length ≤ 6) :
    Calls Try.prog 83 #[.pointer (some ⟨g, 0, none⟩)] w fun e w' => e = .returned (.int .i64 (signN t)) ∧ Below w.heap.size w w' := by
  have HTR := hide ht
  have HOK := hide hok
  have HP : Hid (∀ x ∈ t.params, hasB (t.names []) x = true) := names_params t []
  have hst := World.ownsRow_lit (base := w.heap.size) (e := 9) (size := 1) w #[] 0 (Nat.le_refl _) (by unfold maxLen; omega) rfl
  have HST := hide hst
  clear hst ht hok
  go_enter Try.func83, Try.ntmps83
  go_wp2_with fail
  refine (l1Names_any t g _ _ [] w.heap.size (HTR.out.keep (bel_alloc (Below.refl _ _) _)) HST.out (by simp) (by simp; omega)).mono ?_
  rintro e w1 ⟨vn, rfl, hown1, hb1⟩
  have hstr1 := row_strs hown1
  have hbel1 : Below w.heap.size w w1 := (bel_alloc (Below.refl w.heap.size w) _).trans hb1
  clear hown1 hb1
  obtain ⟨names, hnames⟩ : ∃ names, t.names [] = names := ⟨_, rfl⟩
  rw [hnames] at hstr1 hn HP
  clear hnames
  have HS1 := hide hstr1
  obtain ⟨na, nc, rfl, _, _, _⟩ := hstr1
  go_wp2_with fail
  refine (l1Tries_any names.length (by omega) _).mono ?_
  rintro e w2 ⟨rv, rfl, hrows, hb2⟩
  have hbel2 := bel_trans hbel1 hb2
  have HS2 := hide (HS1.out.keep hb2)
  have HT2 := hide (HTR.out.keep hbel2)
  have HSG := hide (sign_zeros t HOK.out names HP.out (tries names.length) (fun vs h => ⟨(tries_rows vs h).1, fun x hx => ((tries_rows vs h).2 x hx).1⟩) (tries_zeros hn) (tries_ones hn))
  have HROWS : Hid (∀ vs ∈ tries names.length, vs.length = names.length ∧ ∀ x ∈ vs, 0 ≤ x ∧ x ≤ 1000) := tries_rows
  have hlen : (tries names.length).length ≤ 53248 := by
    have h1 := triesOf_len names.length (2 ^ names.length)
    have h2 := pow_le names.length (by omega)
    have h3 : 2 ^ names.length * (names.length + 1) ≤ 4096 * 13 := Nat.mul_le_mul h2 (by omega)
    show (triesOf _ _).length ≤ _
    omega
  clear hb2 hbel1 HS1 HTR
  generalize tries names.length = rows at *
  obtain ⟨ra, rc, rfl, hrl, hrm, hrc⟩ := hrows
  have HRC := hide hrc
  clear hrc
  unfold maxLen at hrm
  go_wp2_with fail
  go_loopw [5, 6] (fun z i wr => ∃ (k : Nat), k ≤ rows.length ∧ i = .int .i64 k ∧ z = .int .i64 ((rows.take k).countP (zeroAt t names)) ∧ w2 = wr) (fun _ i _ => rows.length - (intOf i).toNat)
  case atStart => exact ⟨0, by omega, rfl, by simp, rfl⟩
  case round =>
    obtain ⟨k, hk, rfl, rfl, rfl⟩ := hrel
    have hcl : (rows.take k).countP (zeroAt t names) ≤ k := Nat.le_trans List.countP_le_length (by simp; omega)
    by_cases hlt : k < rows.length
    · have hlt' : (k : Int) < rows.length := by omega
      obtain ⟨b, rfl, hcc⟩ := HRC.out (by omega)
      obtain ⟨u, hu, htag⟩ := hcc k hlt
      have hints := htag.ints
      have hmem : rows[k] ∈ rows := List.getElem_mem hlt
      have hrow := HROWS.out _ hmem
      have HV : Hid (Vals w2 (.slice na names.length nc) u names rows[k]) := ⟨HS2.out, hints, hrow.1.symm, fun x hx => by have := hrow.2 x hx; omega⟩
      have HCT := hide (countP_snoc (zeroAt t names) rows k hlt)
      have HZ : Hid (zeroAt t names rows[k] = decide (t.weigh (valAt names rows[k]) = 0)) := rfl
      have HC := hide (l1Weigh_any t g w.heap.size w2 _ _ names rows[k] HT2.out HOK.out HV.out HP.out (by omega))
      obtain ⟨ua, uc, rfl, _, _, _⟩ := hints
      clear hcc htag hrow hmem
      generalize (rows.take k).countP (zeroAt t names) = z at *
      by_cases hz : t.weigh (valAt names rows[k]) = 0
      · have HCT2 : Hid ((rows.take (k + 1)).countP (zeroAt t names) = z + 1) := by show _ = _; rw [HCT.out, HZ.out, decide_eq_true hz]; rfl
        have q : (t.weigh (valAt names rows[k]) == 0) = true := beq_iff_eq.2 hz
        clear hz HCT HZ
        generalize t.weigh (valAt names rows[k]) = x at *
        go_wp2_with (go_at_call 74; refine HC.out.mono ?_; rintro e w' ⟨rfl, rfl⟩)
        go_roundw
        case rel => exact ⟨k + 1, by omega, by go_num, by rw [HCT2.out]; simp, by first | rfl | trivial⟩
        case measure => simp [intOf]; omega
      · have HCT2 : Hid ((rows.take (k + 1)).countP (zeroAt t names) = z) := by show _ = _; rw [HCT.out, HZ.out, decide_eq_false hz]; rfl
        have q : (t.weigh (valAt names rows[k]) == 0) = false := beq_eq_false_iff_ne.2 hz
        clear hz HCT HZ
        generalize t.weigh (valAt names rows[k]) = x at *
        go_wp2_with (go_at_call 74; refine HC.out.mono ?_; rintro e w' ⟨rfl, rfl⟩)
        go_roundw
        case rel => exact ⟨k + 1, by omega, by go_num, by rw [HCT2.out], by first | rfl | trivial⟩
        case measure => simp [intOf]; omega
    · have hke : rows.take k = rows := List.take_of_length_le (by omega)
      rw [hke] at hcl ⊢
      clear hke
      generalize rows.countP (zeroAt t names) = z at *
      by_cases z0 : z = 0
      · have HS3 : Hid (signN t = 0) := by show _ = _; rw [← HSG.out, if_pos z0]
        have q : ((z : Int) == 0) = true := by simp [z0]
        clear z0 HSG
        go_wp2_with fail
        go_ret
        exact ⟨ret_int HS3.out.symm, hbel2⟩
      · have q : ((z : Int) == 0) = false := by rw [beq_eq_false_iff_ne]; omega
        by_cases z1 : z = rows.length
        · have HS3 : Hid (signN t = 1) := by show _ = _; rw [← HSG.out, if_neg z0, if_pos z1]
          have q1 : ((z : Int) == (rows.length : Int)) = true := by simp [z1]
          clear z0 z1 HSG
          go_wp2_with fail
          go_ret
          exact ⟨ret_int HS3.out.symm, hbel2⟩
        · have HS3 : Hid (signN t = 2) := by show _ = _; rw [← HSG.out, if_neg z0, if_neg z1]
          have q1 : ((z : Int) == (rows.length : Int)) = false := by rw [beq_eq_false_iff_ne]; omega
          clear z0 z1 HSG
          go_wp2_with fail
          go_ret
          exact ⟨ret_int HS3.out.symm, hbel2⟩

/-- What a valid level gives: its tree. -/
def OkTree (ns : List Nd) (t : Tr) : Prop := ns = t.flat 0 ∧ t.ok ∧ t.names [] = namesOf ns ∧ t.cnt = ns.length ∧ ns.length ≤ 64 ∧ (namesOf ns).length ≤ 6
theorem lvl_bounds {ns : List Nd} (h : lvlB ns = true) : ns.length ≤ 64 ∧ (namesOf ns).length ≤ 6 := by
  unfold lvlB at h
  rw [Bool.and_eq_true, Bool.and_eq_true, decide_eq_true_eq, decide_eq_true_eq] at h
  refine ⟨h.1.2, ?_⟩
  have h2 := h.2
  split at h2
  · rw [Bool.and_eq_true, decide_eq_true_eq, decide_eq_true_eq] at h2; exact h2.2
  · cases h2

set_option maxHeartbeats 1000000 in
theorem specSign_any (v : Value) (ns : List Nd) (w : World) (hns : NodesAt w v ns) (hsz : ∀ nd ∈ ns, nd.s.size ≤ maxLen) :
    Calls Try.prog 33 #[.agg #[v]] w fun e w' => ((lvlB ns = false ∧ e = .returned (.int .i64 (-1))) ∨ (lvlB ns = true ∧ ∃ t, OkTree ns t ∧ e = .returned (.int .i64 (signN t)))) ∧ Below w.heap.size w w' := by
  have HN : Hid (∀ o, NodesAt (w.alloc o) v ns) := fun o => hns.keep (bel_alloc (Below.refl _ _) o)
  have HZ := hide hsz
  obtain ⟨a, cap, rfl, _, _, _⟩ := hns
  clear hsz
  go_enter Try.func33, Try.ntmps33
  go_wp2_with fail
  refine (l1Tree_any _ ns _ (HN.out _) HZ.out).mono ?_
  rintro e w1 ⟨(⟨hl, rfl⟩ | ⟨hl, g, t, rfl, htr, hf, hok, hnm, hct⟩), hb⟩
  · have hbel := (bel_alloc (Below.refl w.heap.size w) _).trans (hb.mono (by simp))
    go_wp2_with (go_at_call 65; refine (none_none _).mono ?_; rintro e w' ⟨rfl, rfl⟩)
    go_ret
    exact ⟨.inl ⟨hl, rfl⟩, hbel⟩
  · have hbel := (bel_alloc (Below.refl w.heap.size w) _).trans (hb.mono (by simp))
    obtain ⟨hb1, hb2⟩ := lvl_bounds hl
    have HT : Hid (OkTree ns t) := ⟨hf, hok, hnm, hct, hb1, hb2⟩
    have HS := hide (l1Sign_any t g w1 htr hok (by omega) (by rw [hnm]; exact hb2))
    have HL := hide hl
    clear hf hok hnm hct htr hb hl
    go_wp2_with (go_at_call 65; refine (none_some _ _).mono ?_; rintro e w' ⟨rfl, rfl⟩)
    refine HS.out.mono ?_
    rintro e w2 ⟨rfl, hb3⟩
    have hbel2 := bel_trans hbel hb3
    clear hb3
    go_wp2_with fail
    go_ret
    exact ⟨.inr ⟨HL.out, t, HT.out, rfl⟩, hbel2⟩
end Go.Proofs.Ytnifepmaijfllaa
