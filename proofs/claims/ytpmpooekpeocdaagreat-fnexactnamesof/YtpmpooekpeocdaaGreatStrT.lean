/- A term that can stand by itself, as a plain function; what a node of the store keeps of the parameters in its tree. No program is walked here. -/
import Derived.Test.YtpmpooekpeocdaaGreatApN
import Derived.Test.YtpmpooekpeocdaaGreatDcE
import Derived.Test.YtpmpooekpeocdaaGreatTMk
import Derived.Test.YtpmpooekpeocdaaGreatStrs
import Derived.Lib.SlicesCompact
import Derived.Test.YtpmpooekpeocdaaGreatStrS
import Derived.Test.YtpmpooekpeocdaaGreatNames
namespace Go.Proofs.YtpmpooekpeocdaaGreat
open Go.ChangeShapes Go.WideShapes Go.ChangeAt Go.RowKit

/-- Whether a parameter stands in the levels of a tree. -/
def Tt.hasP : Tt → Bool
  | .t0 h => parL h.lv
  | .t1 h a => parL h.lv || a.hasP
  | .t2 h a b => parL h.lv || a.hasP || b.hasP
  | .t3 h a b c => parL h.lv || a.hasP || b.hasP || c.hasP
theorem hpP_same (p : Bool) (f g : Nat → Bool) : ∀ n, (∀ i, i < n → f i = g i) → hpP p f n = hpP p g n
  | 0, _ => rfl
  | n + 1, h => by
    show (hpP p f n || f n) = (hpP p g n || g n)
    rw [hpP_same p f g n (fun i hi => h i (by omega)), h n (by omega)]
theorem hasP_kids (T : Tt) : T.hasP = hpP (parL T.hd.lv) (fun j => ((T.kids[j]?).map Tt.hasP).getD false) T.kids.length := by cases T <;> rfl
theorem kid_cntD (T : Tt) (j : Nat) (h : j < T.kids.length) : T.kids[j].cnt < T.cnt := by
  cases T with
  | t0 _ => simp [Tt.kids] at h
  | t1 _ a => have : j = 0 := by { simp [Tt.kids] at h; omega }
              subst this; simp [Tt.kids, Tt.cnt]
  | t2 _ a b =>
    have := a.cnt_pos; have := b.cnt_pos
    rcases (show j = 0 ∨ j = 1 by simp [Tt.kids] at h; omega) with rfl | rfl <;> simp [Tt.kids, Tt.cnt] <;> omega
  | t3 _ a b c =>
    have := a.cnt_pos; have := b.cnt_pos; have := c.cnt_pos
    rcases (show j = 0 ∨ j = 1 ∨ j = 2 by simp [Tt.kids] at h; omega) with rfl | rfl | rfl <;> simp [Tt.kids, Tt.cnt] <;> omega
theorem kid_allD {P : Hd → Nat → Prop} (T : Tt) (hP : T.all P) (j : Nat) (h : j < T.kids.length) : T.kids[j].all P := by
  cases T with
  | t0 _ => simp [Tt.kids] at h
  | t1 _ a => have : j = 0 := by { simp [Tt.kids] at h; omega }
              subst this; exact hP.2
  | t2 _ a b => rcases (show j = 0 ∨ j = 1 by simp [Tt.kids] at h; omega) with rfl | rfl
                · exact hP.2.1
                · exact hP.2.2
  | t3 _ a b c => rcases (show j = 0 ∨ j = 1 ∨ j = 2 by simp [Tt.kids] at h; omega) with rfl | rfl | rfl
                  · exact hP.2.1
                  · exact hP.2.2.1
                  · exact hP.2.2.2
theorem ist_par {base : Nat} {w : World} {Sb mb gb clock : Nat} {L : List (Nk × Nat × Nat)} {Z : Nat → Zs} {H : Nat → Bool} (hs : St base w Sb mb gb clock L Z H) : ∀ (n : Nat) (T : Tt) (b : Nat), T.cnt ≤ n → IsT L T b → T.all nodeP → H b = T.hasP
  | 0, T, _, h, _, _ => by have := T.cnt_pos; omega
  | n + 1, T, b, hn, h, hP => by
    obtain ⟨ps, c, hl, hm, hk⟩ := ist_open h
    have he := hs.ents _ hm
    have h3 : ps.length ≤ 3 := by have := kids_le T; omega
    have ha := ent_arity he h3
    have e : (tkidsN T.hd.k).toNat = T.kids.length := by omega
    obtain ⟨lv, _, _, hH⟩ := ent_levs he (lev_of (hd_all T hP).2)
    have hH : H b = hpP (parL T.hd.lv) (fun j => H (((keyP T.hd ps).kid j).getD 0)) (tkidsN T.hd.k).toNat := hH
    rw [hH, e, hasP_kids T]
    refine hpP_same _ _ _ _ (fun j hj => ?_)
    have hjp : j < ps.length := by omega
    rw [keyP_kid _ _ h3, List.getElem?_eq_getElem hjp, List.getElem?_eq_getElem hj]
    exact ist_par hs n _ _ (by have := kid_cntD T j hj; omega) (hk j hjp hj) (kid_allD T hP j hj)
theorem names_nil : ∀ (ns acc : List _) , (∀ nd ∈ (ns : List Nd), nd.k ≠ 5) → ns.foldl addName acc = acc
  | [], _, _ => rfl
  | nd :: ns, acc, h => by
    have h1 : addName acc nd = acc := by unfold addName; rw [if_neg (fun q => h nd (by simp) q.1)]
    simp only [List.foldl_cons, h1]
    exact names_nil ns acc (fun x hx => h x (by simp [hx]))
theorem lvN_nil {td : Td} (h : parL td.lv = false) : lvN td = [] := by
  unfold lvN
  refine List.flatMap_eq_nil_iff.2 (fun l hl => ?_)
  unfold namesOf
  refine names_nil l [] (fun nd hnd e => ?_)
  have : parL td.lv = true := List.any_eq_true.2 ⟨l, hl, List.any_eq_true.2 ⟨nd, hnd, by simp [e]⟩⟩
  rw [h] at this
  cases this
theorem flat_nopar : ∀ (T : Tt) (o : Nat), T.hasP = false → ∀ td ∈ T.flat o, parL td.lv = false
  | .t0 h, o, e, td, hm => by
    simp only [Tt.flat, List.mem_singleton] at hm
    subst hm; exact e
  | .t1 h a, o, e, td, hm => by
    simp only [Tt.hasP, Bool.or_eq_false_iff] at e
    simp only [Tt.flat, List.mem_append, List.mem_singleton] at hm
    rcases hm with hm | rfl
    · exact flat_nopar a _ e.2 td hm
    · exact e.1
  | .t2 h a b, o, e, td, hm => by
    simp only [Tt.hasP, Bool.or_eq_false_iff] at e
    simp only [Tt.flat, List.mem_append, List.mem_singleton] at hm
    rcases hm with (hm | hm) | rfl
    · exact flat_nopar a _ e.1.2 td hm
    · exact flat_nopar b _ e.2 td hm
    · exact e.1.1
  | .t3 h a b c, o, e, td, hm => by
    simp only [Tt.hasP, Bool.or_eq_false_iff] at e
    simp only [Tt.flat, List.mem_append, List.mem_singleton] at hm
    rcases hm with ((hm | hm) | hm) | rfl
    · exact flat_nopar a _ e.1.1.2 td hm
    · exact flat_nopar b _ e.1.2 td hm
    · exact flat_nopar c _ e.2 td hm
    · exact e.1.1.1
/-- Where no parameter stands in it, a term's levels have no names. -/
theorem levsA_nil {ts : List Td} {T : Tt} (ht : termB ts = true) (hT : T.flat 0 = ts) (h : T.hasP = false) : levsA ts = [] := by
  unfold levsA
  rw [if_pos ht]
  refine List.eq_nil_iff_forall_not_mem.2 (fun x hx => ?_)
  rw [levsT_mem ht] at hx
  unfold levsN at hx
  obtain ⟨td, hm, hy⟩ := List.mem_flatMap.1 hx
  rw [lvN_nil (flat_nopar T 0 h td (by rw [hT]; exact hm))] at hy
  simp at hy
/-- A term that can stand by itself: valid, closed, without holes, its levels' names among the parameters. -/
def rootZ (ts : List Td) : Zs := zI (Zt ts) ((ts.length - 1 : Nat) : Int)
def plainB (ts : List Td) (ps : List ByteArray) : Bool := termB ts && (decide ((rootZ ts).lo ≤ 0) && (!(rootZ ts).ho && (levsA ts).all (hasB ps)))
/-- A declaration that is shaped. -/
def declB (d : Dc) : Bool := fieldsD d && (decide (d.k = 5) || (plainB d.t d.ps && ((!hasVal d.k || plainB d.v d.ps) && d.cs.all (fun c => plainB c.t d.ps))))
end Go.Proofs.YtpmpooekpeocdaaGreat

/- What slices.ContainsFunc answers at the function that readDeclTerm hands to it: whether a name is none of the parameters. -/
namespace Go.Proofs.YtpmpooekpeocdaaGreat
open Go.ChangeShapes Go.WideShapes Go.ChangeAt Go.RowKit

theorem enter116 : ∀ args w, (callFunc 116 args).run Tryz.prog w = .ok (.enter 116 args) w := fun _ _ => by kernel_rfl
set_option maxHeartbeats 1000000 in
theorem notIn_any (s : ByteArray) (pb : Nat) (pv : Value) (ps : List ByteArray) (w : World) (hc : w.cell? ⟨pb, 0, none⟩ = some pv) (hp : StrsAt w pv ps) : Calls Tryz.prog 116 #[.string s, .pointer (some ⟨pb, 0, none⟩)] w fun e w' => e = .returned (.bool (!hasB ps s)) ∧ w' = w := by
  have HC := hide (contains_any pv ps s w hp)
  obtain ⟨a, cap, rfl, _, _, _⟩ := hp
  have hl := lt_cell hc
  go_enter Tryz.func116, Tryz.ntmps116
  go_wp2_with fail
  refine HC.out.mono ?_
  rintro e w1 ⟨rfl, rfl⟩
  go_wp2_with fail
  go_ret
  exact ⟨rfl, rfl⟩
set_option maxRecDepth 20000 in
set_option maxHeartbeats 2000000 in
theorem idxS_any (v : Value) (ss : List ByteArray) (pb : Nat) (pv : Value) (ps : List ByteArray) (w : World) (hv : StrsAt w v ss) (hc : w.cell? ⟨pb, 0, none⟩ = some pv) (hp : StrsAt w pv ps) :
    Calls Tryz.prog 153 #[v, .func (.func 116) #[] #[.pointer (some ⟨pb, 0, none⟩)]] w fun e w' => (∃ r : Int, e = .returned (.int .i64 r) ∧ decide (0 ≤ r) = ss.any (fun s => !hasB ps s)) ∧ w' = w := by
  have he := enter116
  obtain ⟨a, cap, rfl, hlc, hcm, hcell⟩ := hv
  have HC := hide hcell
  have HF : Hid (∀ s : ByteArray, Calls Tryz.prog 116 #[.string s, .pointer (some ⟨pb, 0, none⟩)] w fun e w' => e = .returned (.bool (!hasB ps s)) ∧ w' = w) := fun s => notIn_any s pb pv ps w hc hp
  unfold maxLen at hcm
  clear hcell hc hp
  go_enter Tryz.func153, Tryz.ntmps153
  go_wp2_with fail
  go_loop [8] (fun i => ∃ (j : Nat), j ≤ ss.length ∧ i = .int .i64 j ∧ Hid ((ss.take j).any (fun s => !hasB ps s) = false)) (fun i => ss.length - (intOf i).toNat)
  case atStart => exact ⟨0, by omega, rfl, by show _ = _; simp⟩
  case round =>
    obtain ⟨j, hj, rfl, HN⟩ := hrel
    by_cases hlt : j < ss.length
    · have hlt' : (j : Int) < ss.length := by omega
      obtain ⟨b, off, rfl, hcc⟩ := HC.out (by omega)
      have d1 := hcc j hlt
      have HT := hide (any_take (fun s => !hasB ps s) ss j hlt HN.out)
      have HO := hide (any_of (fun s => !hasB ps s) ss j hlt)
      have HP := hide (HF.out ss[j])
      have HQ := hide (show j + 1 ≤ ss.length from hlt)
      clear hcc
      generalize ss[j] = s at *
      cases hk : (!hasB ps s)
      · rw [hk] at HP
        have HT2 : Hid ((ss.take (j + 1)).any (fun s => !hasB ps s) = false) := by show _ = _; rw [HT.out]; exact hk
        go_wp2_with fail
        refine HP.out.mono ?_
        rintro e w1 ⟨rfl, rfl⟩
        go_wp2_with fail
        go_round
        case rel => exact ⟨j + 1, HQ.out, by go_num, HT2⟩
        case measure => have := HQ.out; simp [intOf]; omega
      · rw [hk] at HP
        have HT2 : Hid (ss.any (fun s => !hasB ps s) = true) := HO.out hk
        go_wp2_with fail
        refine HP.out.mono ?_
        rintro e w1 ⟨rfl, rfl⟩
        go_wp2_with fail
        go_ret
        exact ⟨⟨(j : Int), rfl, by rw [HT2.out]; simp⟩, rfl⟩
    · have HT2 : Hid (ss.any (fun s => !hasB ps s) = false) := by
        show _ = _
        have := HN.out
        rw [List.take_of_length_le (by omega)] at this
        exact this
      go_wp2_with fail
      go_ret
      exact ⟨⟨-1, rfl, by rw [HT2.out]; rfl⟩, rfl⟩
set_option maxHeartbeats 1000000 in
theorem conS_any (v : Value) (ss : List ByteArray) (pb : Nat) (pv : Value) (ps : List ByteArray) (w : World) (hv : StrsAt w v ss) (hc : w.cell? ⟨pb, 0, none⟩ = some pv) (hp : StrsAt w pv ps) :
    Calls Tryz.prog 114 #[v, .func (.func 116) #[] #[.pointer (some ⟨pb, 0, none⟩)]] w fun e w' => e = .returned (.bool (ss.any (fun s => !hasB ps s))) ∧ w' = w := by
  have HI := hide (idxS_any v ss pb pv ps w hv hc hp)
  obtain ⟨a, cap, rfl, _, _, _⟩ := hv
  clear hc hp
  go_enter Tryz.func114, Tryz.ntmps114
  go_wp2_with fail
  refine HI.out.mono ?_
  rintro e w1 ⟨⟨r, rfl, hr⟩, rfl⟩
  have HR := hide hr
  clear hr
  go_wp2_with fail
  go_ret
  refine ⟨?_, rfl⟩
  exact congrArg (fun b => Ending.returned (.bool b)) HR.out
end Go.Proofs.YtpmpooekpeocdaaGreat

/- A sorted row of texts, compacted: a rising row with the same members. Plain facts. -/
namespace Go.Proofs.YtpmpooekpeocdaaGreat

theorem compactL_upto (l : List (List UInt8)) (hs : l.Pairwise (fun a b => a ≤ b)) : ∀ m, m ≤ l.length → (Lib.compactUpTo l.toArray m).Pairwise (fun a b => a < b) ∧ (∀ x, x ∈ Lib.compactUpTo l.toArray m ↔ x ∈ l.take m)
  | 0, _ => by simp [Lib.compactUpTo]
  | m + 1, hm => by
    obtain ⟨h1, h2⟩ := compactL_upto l hs m (by omega)
    have hml : m < l.length := by omega
    have hd : l.toArray[m]! = l[m] := by simp [hml]
    have hle : ∀ i j (h : i < l.length) (h' : j < l.length), i ≤ j → l[i] ≤ l[j] := by
      intro i j h h' hj
      rcases Nat.lt_or_eq_of_le hj with h3 | h3
      · exact List.pairwise_iff_getElem.1 hs i j h h' h3
      · subst h3; exact List.le_refl _
    rw [Lib.compactUpTo_succ, hd]
    have ht : l.take (m + 1) = l.take m ++ [l[m]] := List.take_succ_eq_append_getElem (by omega)
    by_cases hk : Lib.keeps l.toArray m = true
    · rw [if_pos hk]
      refine ⟨List.pairwise_append.2 ⟨h1, by simp, fun a ha b hb => ?_⟩, fun x => ?_⟩
      · rw [List.mem_singleton] at hb
        subst hb
        obtain ⟨j, hj, e⟩ := List.mem_iff_getElem.1 ((h2 a).1 ha)
        simp only [List.length_take] at hj
        rw [List.getElem_take] at e
        have hm1 : m - 1 < l.length := by omega
        have h3 : a ≤ l[m - 1] := by rw [← e]; exact hle j (m - 1) (by omega) hm1 (by omega)
        have h4 := hle (m - 1) m hm1 hml (by omega)
        have h5 : l[m - 1] ≠ l[m] := by
          unfold Lib.keeps at hk
          have : m ≠ 0 := by omega
          simp [this, hml, hm1] at hk
          first | exact hk | exact fun h => hk h.symm
        have h6 : l[m - 1] < l[m] := l8_total h4 (Ne.symm h5)
        rcases Decidable.em (a = l[m - 1]) with e2 | e2
        · rw [e2]; exact h6
        · exact List.lt_trans (l8_total h3 (Ne.symm e2)) h6
      · rw [List.mem_append, h2 x, ht, List.mem_append]
    · rw [if_neg hk, List.append_nil]
      refine ⟨h1, fun x => ?_⟩
      rw [h2 x, ht, List.mem_append]
      constructor
      · intro h; exact .inl h
      · rintro (h | h)
        · exact h
        · rw [List.mem_singleton] at h
          have h0 : m ≠ 0 := by
            intro h0; subst h0; exact hk (by simp [Lib.keeps])
          have hm1 : m - 1 < l.length := by omega
          have h5 : l[m - 1] = l[m] := by
            unfold Lib.keeps at hk
            simp [h0, hml, hm1] at hk
            first | exact hk | exact hk.symm
          rw [h, ← h5]
          exact List.mem_iff_getElem.2 ⟨m - 1, by simp; omega, by simp⟩
/-- The sorted row of the nodes' names, compacted, is the rising row. -/
theorem compact_levs {ts : List Td} (ht : termB ts = true) : Lib.compact (((levsN ts).map kk).mergeSort fun x y => decide (x ≤ y)) = (levsT ts).map kk := by
  have hs : (((levsN ts).map kk).mergeSort fun x y => decide (x ≤ y)).Pairwise (fun a b => a ≤ b) := by
    have h := List.pairwise_mergeSort (le := fun (x y : List UInt8) => decide (x ≤ y)) (fun a b c h1 h2 => by simp at h1 h2 ⊢; exact List.le_trans h1 h2) (fun a b => by simp; exact List.le_total a b) ((levsN ts).map kk)
    exact h.imp (by simp)
  obtain ⟨h1, h2⟩ := compactL_upto _ hs _ (Nat.le_refl _)
  refine risL_ext _ _ h1 ?_ (fun x => ?_)
  · exact List.pairwise_map.2 (levsT_rising ts)
  unfold Lib.compact
  rw [h2 x, List.take_length, (List.mergeSort_perm _ _).mem_iff, List.mem_map, List.mem_map]
  constructor
  · rintro ⟨a, ha, rfl⟩; exact ⟨a, (levsT_mem ht a).2 ha, rfl⟩
  · rintro ⟨a, ha, rfl⟩; exact ⟨a, (levsT_mem ht a).1 ha, rfl⟩
end Go.Proofs.YtpmpooekpeocdaaGreat

/- What levelParams answers. -/
namespace Go.Proofs.YtpmpooekpeocdaaGreat
open Go.ChangeShapes Go.WideShapes Go.ChangeAt Go.RowKit

set_option maxHeartbeats 2000000 in
theorem levelParams_any (v : Value) (ns : List Nd) (w : World) (hns : NodesAt w v ns) (hl : ns.length ≤ 64) :
    Calls Tryz.prog 154 #[.agg #[v]] w fun e w' => ∃ v', e = .returned v' ∧ StrsAt w' v' (namesOf ns) ∧ Below w.heap.size w w' := by
  obtain ⟨i0, hi, hz0, hz1, hz2⟩ := info_parts Tryz.info9
  obtain ⟨a, cap, rfl, hlc, hcm, hc⟩ := hns
  unfold maxLen at hcm
  have H := hide hc
  clear hc
  have HEND : Hid (namesOf (ns.take ns.length) = namesOf ns) := by show _ = _; rw [List.take_of_length_le (by omega)]
  go_enter Tryz.func154, Tryz.ntmps154
  go_wp2_with fail
  go_loopw [3, 9] (fun o i wr => ∃ (k : Nat) (ss : List ByteArray), k ≤ ns.length ∧ i = .int .i64 k ∧ Hid (ss = namesOf (ns.take k)) ∧ ss.length ≤ k ∧ wr.ownsRow w.heap.size 9 1 o ss.length (ss.map Value.string) ∧ Below w.heap.size w wr) (fun _ i _ => ns.length - (intOf i).toNat)
  case atStart => exact ⟨0, [], by omega, rfl, rfl, by simp, ⟨rfl, .inl ⟨rfl, rfl⟩⟩, bel_alloc (Below.refl _ _) _⟩
  case round =>
    obtain ⟨k, ss, hk, rfl, HS, hsl, hown, hbel⟩ := hrel
    have hstr := row_strs hown
    by_cases hlt : k < ns.length
    · obtain ⟨b, off, rfl, hcc⟩ := H.out (by omega)
      obtain ⟨c1, c2, kv, c3, hkv⟩ := (hcc k hlt).keep hbel
      have hsn := names_snoc ns k hlt
      rw [← HS.out] at hsn
      have HSN := hide hsn
      obtain ⟨ka, kc, rfl, _, _, _⟩ := hkv
      clear hcc hsn
      generalize ns[k] = nd at *
      have hlt' : (k : Int) < ns.length := by omega
      have HST := hide hstr
      obtain ⟨oa, oc, rfl, _, _, _⟩ := hstr
      by_cases h5 : nd.k = 5
      · have hq : (nd.k == 5) = true := beq_iff_eq.2 h5
        cases hh : hasB ss nd.s
        · have HAD : Hid (ss ++ [nd.s] = namesOf (ns.take (k + 1))) := by show _ = _; rw [HSN.out, addName, if_pos ⟨h5, hh⟩]
          clear h5 HSN HS
          go_wp2_with (first
            | (go_at_call 117; refine (contains_any _ ss nd.s _ (HST.out.keep (bel_alloc (Below.refl _ _) _))).mono ?_; rintro e w1 ⟨rfl, rfl⟩; rw [hh])
            | (at_builtin; refine wpList_append_own _ rfl _ _ 22 rfl w.heap.size 9 i0 (.string ⟨#[]⟩) 1 16 Tryz.underlying22 hi hz0 hz1 hz2 rfl (by decide) _ _ _ rfl ((hown.alloc _).alloc _) ⟨_, 0, none⟩ 1 1 [.string nd.s] rfl rfl ?c1 ?c2 ?c3 ?c4 ?c5 ?_))
          case c1 =>
            intro j u hj
            have h := cell_one_new (wr.alloc (.cells #[.int .i64 nd.k, .string nd.s, .slice ka nd.kids.length kc] 243)) (.string nd.s) 9 j u hj
            rw [World.size_alloc] at h
            exact h
          case c2 => first | rfl | (intro u hu; simp at hu; subst hu; rfl)
          case c3 => unfold maxLen; omega
          case c4 => omega
          case c5 => have := hbel.size; simp; omega
          intro v4 w4 hown4 hgrow4 _
          have hbel4 : Below w.heap.size w w4 := (bel_alloc (bel_alloc hbel _) _).grown hgrow4 (bel_alloc (bel_alloc hbel _) _).size (fun j hj => (hown.lt j hj).1)
          have HOWN4 : Hid (w4.ownsRow w.heap.size 9 1 v4 (ss ++ [nd.s]).length ((ss ++ [nd.s]).map Value.string)) := by
            show World.ownsRow _ _ _ _ _ _ _
            simpa using hown4
          obtain ⟨oa4, oc4, rfl⟩ := row_form4 hown4
          clear hown4 hgrow4 hown
          go_wp2_with fail
          go_roundw
          case rel => exact ⟨k + 1, ss ++ [nd.s], by omega, by go_num, HAD, by simp; omega, HOWN4.out, hbel4⟩
          case measure => simp [intOf]; omega
        · have HAD : Hid (ss = namesOf (ns.take (k + 1))) := by show _ = _; rw [HSN.out, addName, if_neg (by simp [hh])]
          clear h5 HSN HS
          go_wp2_with (go_at_call 117; refine (contains_any _ ss nd.s _ (HST.out.keep (bel_alloc (Below.refl _ _) _))).mono ?_; rintro e w1 ⟨rfl, rfl⟩; rw [hh])
          go_roundw
          case rel => exact ⟨k + 1, ss, by omega, by go_num, HAD, by omega, hown.alloc _, bel_alloc hbel _⟩
          case measure => simp [intOf]; omega
      · have hq : (nd.k == 5) = false := beq_eq_false_iff_ne.2 h5
        have HAD : Hid (ss = namesOf (ns.take (k + 1))) := by show _ = _; rw [HSN.out, addName, if_neg (by simp [h5])]
        clear h5 HSN HS
        go_wp2_with fail
        go_roundw
        case rel => exact ⟨k + 1, ss, by omega, by go_num, HAD, by omega, hown.alloc _, bel_alloc hbel _⟩
        case measure => simp [intOf]; omega
    · have HE : Hid (ss = namesOf ns) := by show _ = _; rw [HS.out, show k = ns.length from by omega, HEND.out]
      obtain ⟨oa, oc, rfl, _, _, _⟩ := hstr
      have HO := hide (row_strs hown)
      clear hown
      go_wp2_with fail
      go_ret
      exact ⟨_, rfl, by rw [← HE.out]; exact HO.out, hbel⟩
end Go.Proofs.YtpmpooekpeocdaaGreat
