/- A valid term: its kids stand before it, its levels have trees; what both sides answer. -/
import Derived.Test.YtcagcfhnbphggaaGreatDoorTtX
import Derived.Test.YtcagcfhnbphggaaGreatDoorSpec
import Derived.Test.YtcagcfhnbphggaaGreatDoorParts
import Derived.LaidEqlPtr
import Derived.Deep.CutRange
import Derived.Test.YtcagcfhnbphggaaGreatDoorSpecL
import Derived.Laws.IdiomStrings
namespace Go.Proofs.YtcagcfhnbphggaaGreatDoor
open Go.ChangeShapes Go.WideShapes Go.ChangeAt Go.RowKit

theorem lvl_stands (ns : List Nd) : ∀ (k : Nat) (st : List Int), runTo ns k = some st → k ≤ ns.length → ∃ ts, Stands ns k st ts := by
  intro k
  induction k with
  | zero => intro st h _; simp [runTo] at h; subst h; exact ⟨[], Stands.start ns⟩
  | succ k ih =>
    intro st h hk
    have hlt : k < ns.length := by omega
    cases hr : runTo ns k with
    | none => rw [runTo_none ns k (k + 1) (by omega) hr] at h; cases h
    | some st0 =>
      obtain ⟨ts, hs⟩ := ih st0 hr (by omega)
      rw [runTo_succ ns k hlt st0 hr] at h
      unfold stepN at h
      split at h
      · cases h
      · rename_i hc
        have h := Option.some.inj h
        have c1 : ¬ kidsN ns[k].k < 0 := fun e => hc (.inl e)
        have c2 : ¬ (st0.length : Int) < kidsN ns[k].k := fun e => hc (.inr (.inl e))
        have c3 : fieldsB ns[k] = true := by
          cases e : fieldsB ns[k]
          · exact absurd (.inr (.inr (.inl e))) hc
          · rfl
        have c4 : ns[k].kids = st0.drop (st0.length - (kidsN ns[k].k).toNat) := Classical.byContradiction (fun e => hc (.inr (.inr (.inr e))))
        have hlen := hs.len
        rcases kidsN_cases ns[k].k with e | e | e | e
        · omega
        · rw [e] at c4 h
          have c5 : ns[k].kids = [] := by rw [c4]; simp
          have := hs.zero hlt e c3 c5
          rw [← hlen] at this
          subst h
          exact ⟨_, this⟩
        · rw [e] at c2 c4 h
          have hne : ts ≠ [] := fun (q : _ = []) => by
            have hq : st0.length = 0 := by rw [hlen, q]; rfl
            omega
          obtain ⟨xs, a, rfl⟩ : ∃ xs a, ts = xs ++ [a] := ⟨ts.dropLast, ts.getLast hne, (List.dropLast_concat_getLast hne).symm⟩
          have hl2 : st0.length - (1 : Int).toNat = xs.length := by simp at hlen; show st0.length - 1 = _; omega
          rw [hl2] at c4 h
          have := hs.one hlt e c3 c4
          subst h
          exact ⟨_, this⟩
        · rw [e] at c2 c4 h
          have hne : ts ≠ [] := fun (q : _ = []) => by
            have hq : st0.length = 0 := by rw [hlen, q]; rfl
            omega
          obtain ⟨ys, b, rfl⟩ : ∃ xs a, ts = xs ++ [a] := ⟨ts.dropLast, ts.getLast hne, (List.dropLast_concat_getLast hne).symm⟩
          have hne2 : ys ≠ [] := fun (q : _ = []) => by
            have hq : st0.length = 1 := by rw [hlen, q]; rfl
            omega
          obtain ⟨xs, a, rfl⟩ : ∃ xs a, ys = xs ++ [a] := ⟨ys.dropLast, ys.getLast hne2, (List.dropLast_concat_getLast hne2).symm⟩
          have hl2 : st0.length - (2 : Int).toNat = xs.length := by simp at hlen; show st0.length - 2 = _; omega
          rw [hl2] at c4 h
          have hs' : Stands ns k st0 (xs ++ [a, b]) := by simpa using hs
          have := hs'.two hlt e c3 c4
          subst h
          exact ⟨_, this⟩
theorem lvl_tree {ns : List Nd} (h : lvlB ns = true) : ∃ t, LvTree ns t := by
  unfold lvlB at h
  rw [Bool.and_eq_true, Bool.and_eq_true, decide_eq_true_eq, decide_eq_true_eq] at h
  obtain ⟨⟨h1, h2⟩, h3⟩ := h
  cases hr : runTo ns ns.length with
  | none => rw [hr] at h3; cases h3
  | some st =>
    rw [hr] at h3
    have h3 : (decide (st.length = 1) && decide ((namesOf ns).length ≤ 6)) = true := h3
    rw [Bool.and_eq_true, decide_eq_true_eq, decide_eq_true_eq] at h3
    obtain ⟨ts, hs⟩ := lvl_stands ns ns.length st hr (Nat.le_refl _)
    have hl := hs.len
    match ts, hs, hl with
    | [], _, hl => have hl : st.length = 0 := hl
                   omega
    | [t], hs, _ =>
      obtain ⟨a, b, c, d⟩ := hs.all
      exact ⟨t, a, b, c, d⟩
    | _ :: _ :: _, _, hl => simp at hl; omega
theorem kin_run (F : Td → Bool) (ts : List Td) : ∀ k st, trun F ts k = some st → ∀ i (h : i < ts.length), i < k → ∀ c ∈ ts[i].kids, 0 ≤ c ∧ c < (i : Int)
  | 0, _, _ => fun i _ h => by omega
  | k + 1, st, h => by
    unfold trun at h
    split at h
    case h_2 => cases h
    rename_i st' td h1 h2
    unfold tstep at h
    split at h
    · cases h
    rename_i hno
    simp only [not_or, Decidable.not_not] at hno
    obtain ⟨n1, n2, n3, n4⟩ := hno
    intro i hi hik
    by_cases e : i = k
    · subst e
      rw [List.getElem?_eq_getElem hi] at h2
      have e2 := Option.some.inj h2
      intro c hc
      rw [e2, n4] at hc
      exact trun_range F ts i st' h1 c (List.mem_of_mem_drop hc)
    · exact kin_run F ts k st' h1 i hi (by omega)
theorem kin_all {ts : List Td} (h : termB ts = true) : ∀ i (hi : i < ts.length), ∀ c ∈ ts[i].kids, 0 ≤ c ∧ c < (i : Int) := by
  simp only [termB, termB', Bool.and_eq_true] at h
  cases hr : trun (tfieldsB nameB) ts ts.length with
  | none => rw [hr] at h; simp at h
  | some st => exact fun i hi => kin_run _ ts ts.length st hr i hi hi
theorem ctx_mk {w : World} {v : Value} {ts : List Td} (hb : termB ts = true) (hn : TNodesAt w v ts) (ht : Tabs w) (hz : ∀ td ∈ ts, TLens td) : Ctx w v ts := by
  refine ⟨hn, node_ok hb, kin_all hb, fun td hm l hl => ?_, ht, (term_pos hb).2, hz⟩
  obtain ⟨i, hi, rfl⟩ := List.getElem_of_mem hm
  exact lvl_tree ((node_ok hb i hi).lev l hl)
/-- What both sides answer. -/
noncomputable def ttA (ts : List Td) : List UInt8 := open Classical in if termB ts = true ∧ (ttT ts).length ≤ 400000 then ttT ts else []
noncomputable def ttOk (ts : List Td) : Bool := open Classical in decide (termB ts = true ∧ (ttT ts).length ≤ 400000)
theorem ttA_len (ts : List Td) : (ttA ts).length ≤ 400000 := by
  unfold ttA
  split
  · rename_i h; exact h.2
  · simp
theorem tt_bad {ts : List Td} (h : termB ts = false) : ttA ts = [] ∧ ttOk ts = false := by
  unfold ttA ttOk
  rw [h]
  simp
theorem tt_good {ts : List Td} (h : termB ts = true) : (if 400000 < (ttT ts).length then [] else ttT ts) = ttA ts ∧ decide (¬ 400000 < (ttT ts).length) = ttOk ts := by
  unfold ttA ttOk
  by_cases hb : 400000 < (ttT ts).length
  · rw [if_pos hb, if_neg (by omega)]
    refine ⟨rfl, ?_⟩
    rw [decide_eq_false (by omega), decide_eq_false (by omega)]
  · rw [if_neg hb, if_pos ⟨h, by omega⟩]
    refine ⟨rfl, ?_⟩
    rw [decide_eq_true hb, decide_eq_true ⟨h, by omega⟩]
theorem spec_tt (v : Value) (ts : List Td) (w : World) (hn : TNodesAt w v ts) (ht : Tabs w) (hz : ∀ td ∈ ts, TLens td) (hlv : ∀ td ∈ ts, td.lv.length ≤ 1048576) : Calls Tryz.prog 5 #[.agg #[v]] w (TtOut (ttA ts) (ttOk ts) w) := by
  cases hb : termB ts with
  | false => rw [(tt_bad hb).1, (tt_bad hb).2]; exact specTt_bad v ts w hn hz hlv hb
  | true => rw [← (tt_good hb).1, ← (tt_good hb).2]; exact specTt_ok v ts w (ctx_mk hb hn ht hz) hb
theorem impl_tt (v : Value) (ts : List Td) (w : World) (hn : TNodesAt w v ts) (ht : Tabs w) (hz : ∀ td ∈ ts, TLens td) : Calls Tryz.prog 7 #[.agg #[v]] w (TtOut (ttA ts) (ttOk ts) w) := by
  cases hb : termB ts with
  | false => rw [(tt_bad hb).1, (tt_bad hb).2]; exact implTt_bad v ts w hn hz hb
  | true => rw [← (tt_good hb).1, ← (tt_good hb).2]; exact implTt_ok v ts w (ctx_mk hb hn ht hz) hb
end Go.Proofs.YtcagcfhnbphggaaGreatDoor

/- What the specification's l1Nodes answers: the nodes of a tree behind others. -/
namespace Go.Proofs.YtcagcfhnbphggaaGreatDoor
open Go.ChangeShapes Go.WideShapes Go.ChangeAt Go.RowKit

/-- A row of numbers of the call's own, nothing among them. -/
def KidRow (base : Nat) (w : World) (kv : Value) (ks : List Int) : Prop := w.ownsRow base 3 1 kv ks.length (ks.map (Value.int .i64))
/-- A row of nodes of the call's own. -/
def NdRow (base : Nat) (Q : Nat → Prop) (w : World) (g cap : Nat) (ns : List Nd) : Prop :=
  ∃ xs, w.ownsRow base 117 3 (.slice (some ⟨g, 0, none⟩) ns.length cap) ns.length xs ∧ ∀ i (h : i < ns.length), xs[i * 3]? = some (.int .i64 ns[i].k) ∧ xs[i * 3 + 1]? = some (.string ns[i].s) ∧ ∃ kv, xs[i * 3 + 2]? = some kv ∧ KidRow base w kv ns[i].kids ∧ ∀ b, kv.ownBlock = some b → Q b
theorem KidRow.keep {base : Nat} {w w' : World} {kv : Value} {ks : List Int} (h : KidRow base w kv ks) (hb : Below w.heap.size w w') : KidRow base w' kv ks := row_keep hb h
/-- The kids of different nodes lie in different blocks. -/
def Apart (xs : List Value) (n : Nat) : Prop := ∀ i j, i < n → j < n → i ≠ j → ∀ kv kv' b, xs[i * 3 + 2]? = some kv → xs[j * 3 + 2]? = some kv' → kv.ownBlock = some b → kv'.ownBlock = some b → False
theorem grown_set (w : World) (p : Addr) (u : Value) : w.grownBy (w.setCell p u) (some p.block) :=
  ⟨rfl, rfl, rfl, by rw [size_set]; exact Nat.le_refl _, fun k _ hne => Below.heap_setCell w p u k (fun e => hne (by rw [e]))⟩
theorem own_set {base : Nat} {w : World} {e : TypeId} {s : Nat} {g n cap : Nat} {xs : List Value} (h : w.ownsRow base e s (.slice (some ⟨g, 0, none⟩) n cap) n xs) {p : Addr} (hp : g ≠ p.block) (u : Value) : (w.setCell p u).ownsRow base e s (.slice (some ⟨g, 0, none⟩) n cap) n xs :=
  World.ownsRow.kept h (grown_set w p u) (.inr (by simp [Value.ownBlock]; exact hp))
end Go.Proofs.YtcagcfhnbphggaaGreatDoor

/- What the specification's l1Level answers: the level of a tree, in new memory. -/
namespace Go.Proofs.YtcagcfhnbphggaaGreatDoor
open Go.ChangeShapes Go.WideShapes Go.ChangeAt Go.RowKit

theorem KidRow.ints {base : Nat} {w : World} {kv : Value} {ks : List Int} (h : KidRow base w kv ks) : IntsAt w kv ks := by
  rcases h.2 with ⟨h1, h0⟩ | ⟨g, cap, cur, h1, _, hg, hnc, hcm, hcs, htake⟩
  · exact ⟨none, 0, by rw [h1, h0], by omega, by unfold maxLen; omega, fun h => by omega⟩
  · refine ⟨_, cap, h1, hnc, hcm, fun _ => ⟨g, 0, rfl, fun j hj => ?_⟩⟩
    have h3 : w.ownsRow base 3 1 (.slice (some ⟨g, 0, none⟩) ks.length cap) ks.length (ks.map (Value.int .i64)) := by rw [← h1]; exact h
    rw [Nat.zero_add, h3.cellAt j (by omega), List.getElem?_map, List.getElem?_eq_getElem hj]; rfl
theorem NdRow.nodes {base : Nat} {Q : Nat → Prop} {w : World} {g cap : Nat} {ns : List Nd} (h : NdRow base Q w g cap ns) : NodesAt w (.slice (some ⟨g, 0, none⟩) ns.length cap) ns := by
  obtain ⟨xs, h1, h2⟩ := h
  obtain ⟨hc1, hc2⟩ := ownsRow_cap h1
  refine ⟨_, cap, rfl, hc1, hc2, fun _ => ⟨g, 0, rfl, fun i hi => ?_⟩⟩
  obtain ⟨a, b, kv, c, d, _⟩ := h2 i hi
  rw [Nat.zero_add]
  exact ⟨by rw [h1.cellAt _ (by omega)]; exact a, by rw [h1.cellAt _ (by omega)]; exact b, kv, by rw [h1.cellAt _ (by omega)]; exact c, d.ints⟩
end Go.Proofs.YtcagcfhnbphggaaGreatDoor

/- Rows of the call's own: of numbers and of nodes of levels. -/
namespace Go.Proofs.YtcagcfhnbphggaaGreatDoor
open Go.ChangeShapes Go.WideShapes Go.ChangeAt Go.RowKit

/-- A row of nodes of the call's own, maybe none, the kids apart. -/
def NdW (base : Nat) (w : World) (v : Value) (ns : List Nd) : Prop :=
  ∃ xs, w.ownsRow base 117 3 v ns.length xs ∧ (∀ i (h : i < ns.length), xs[i * 3]? = some (.int .i64 ns[i].k) ∧ xs[i * 3 + 1]? = some (.string ns[i].s) ∧ ∃ kv, xs[i * 3 + 2]? = some kv ∧ KidRow base w kv ns[i].kids) ∧ Apart xs ns.length
theorem KidRow.mono {b b' : Nat} {w : World} {kv : Value} {ks : List Int} (h : KidRow b w kv ks) (hb : b' ≤ b) : KidRow b' w kv ks := by
  refine ⟨h.1, ?_⟩
  rcases h.2 with h1 | ⟨g, cap, cur, h1, h2, h3⟩
  · exact .inl h1
  · exact .inr ⟨g, cap, cur, h1, Nat.le_trans hb h2, h3⟩
theorem NdW.mono {b b' : Nat} {w : World} {v : Value} {ns : List Nd} (h : NdW b w v ns) (hb : b' ≤ b) : NdW b' w v ns := by
  obtain ⟨xs, h1, h2, h3⟩ := h
  refine ⟨xs, ⟨h1.1, ?_⟩, fun i hi => ?_, h3⟩
  · rcases h1.2 with h1 | ⟨g, cap, cur, h1, h2, h3⟩
    · exact .inl h1
    · exact .inr ⟨g, cap, cur, h1, Nat.le_trans hb h2, h3⟩
  · obtain ⟨a, b, kv, c, d⟩ := h2 i hi
    exact ⟨a, b, kv, c, d.mono hb⟩
end Go.Proofs.YtcagcfhnbphggaaGreatDoor

/- What markText answers: a text of the number alone. -/
namespace Go.Proofs.YtcagcfhnbphggaaGreatDoor
open Go.ChangeShapes Go.WideShapes Go.ChangeAt Go.RowKit

/-- A number's digits ahead of a text. -/
def mtD (q : Nat) (out : ByteArray) : ByteArray := if _h : q = 0 then out else mtD (q / 10) (⟨#[UInt8.ofNat (48 + q % 10)]⟩ ++ out)
termination_by q
decreasing_by omega
def mt (k : Nat) : ByteArray := if k = 0 then ⟨#[109, 48]⟩ else ⟨#[109]⟩ ++ mtD k ⟨#[]⟩
theorem mtD_step {q : Nat} (h : q ≠ 0) (out : ByteArray) : mtD q out = mtD (q / 10) (⟨#[UInt8.ofNat (48 + q % 10)]⟩ ++ out) := by
  rw [mtD, dif_neg h]
theorem mtD_zero (out : ByteArray) : mtD 0 out = out := by rw [mtD, dif_pos rfl]
theorem conv_one (W : World) (b q : Nat) (c : W.cell? ⟨b, 0, none⟩ = some (.int .u8 (48 + (q : Int) % 10))) : (convert 26 9 (.slice (some ⟨b, 0, none⟩) 1 1)).run Tryz.prog W = .ok (.string ⟨#[UInt8.ofNat (48 + q % 10)]⟩) W := by
  have hn : (UInt8.ofNat (48 + q % 10)).toNat = 48 + q % 10 := by simp; omega
  exact run_convert_bytes_back (P := Tryz.prog) W 26 9 5 ⟨b, 0, none⟩ 1 [UInt8.ofNat (48 + q % 10)] Tryz.underlying26 Tryz.underlying5 Tryz.underlying9 (fun j hj => by
    have h0 : j = 0 := by simp at hj; omega
    subst h0
    simp only [List.getElem_cons_zero, hn]
    have : (Addr.add ⟨b, 0, none⟩ 0) = ⟨b, 0, none⟩ := rfl
    rw [this, c]
    simp)
set_option maxRecDepth 20000 in
set_option maxHeartbeats 2000000 in
theorem markText_any (k : Nat) (w : World) (hk : 1 ≤ k) (hk2 : k ≤ 1000000000) :
    Calls Tryz.prog 37 #[.int .i64 k] w fun e w' => e = .returned (.string (mt k)) ∧ Below w.heap.size w w' := by
  have HM : Hid (mt k = ⟨#[109]⟩ ++ mtD k ⟨#[]⟩) := by show _ = _; unfold mt; rw [if_neg (by omega)]
  have d0 : decide ((k : Int) ≤ 0) = false := by simp; omega
  go_enter Tryz.func37, Tryz.ntmps37
  go_wp2_with fail
  go_loopw [0, 3] (fun i o wr => ∃ (q : Nat) (out : ByteArray), out.size + q ≤ 1000000000 ∧ i = .int .i64 q ∧ o = .string out ∧ Hid (mtD q out = mtD k ⟨#[]⟩) ∧ Hid (Below w.heap.size w wr)) (fun i _ _ => (intOf i).toNat)
  case atStart => exact ⟨k, ⟨#[]⟩, by show 0 + k ≤ _; omega, rfl, rfl, rfl, Below.refl _ _⟩
  case round =>
    obtain ⟨q, out, hq, rfl, rfl, HX, HB⟩ := hrel
    have hz1 : ∀ d : UInt8, (⟨#[d]⟩ : ByteArray).size = 1 := fun _ => rfl
    by_cases h0 : q = 0
    · subst h0
      have HR : Hid (⟨#[109]⟩ ++ out = mt k) := by show _ = _; rw [HM.out, ← HX.out, mtD_zero]
      have hsz : (⟨#[109]⟩ : ByteArray).size + out.size ≤ 9223372036854775807 := by rw [hz1]; omega
      go_wp2_with fail
      go_ret
      exact ⟨congrArg (fun s => Ending.returned (.string s)) HR.out, HB.out⟩
    · have hq0 : (0 : Int) < q := by omega
      obtain ⟨d, hd⟩ : ∃ d, d = UInt8.ofNat (48 + q % 10) := ⟨_, rfl⟩
      have HY := hide (HX.out.symm.trans (mtD_step h0 out))
      have hcv := conv_one (wr.alloc (.cells #[.int .u8 (48 + (q : Int) % 10)] 5)) wr.heap.size q (by simp [go_sem])
      rw [← hd] at HY hcv
      have hsz : (⟨#[d]⟩ : ByteArray).size + out.size ≤ 9223372036854775807 := by rw [hz1]; omega
      have hsz2 := ByteArray.size_append (a := ⟨#[d]⟩) (b := out)
      rw [hz1] at hsz2
      have HS2 := hide hsz2
      clear HX hd hsz2
      go_wp2_with fail
      go_roundw
      case rel => exact ⟨q / 10, ⟨#[d]⟩ ++ out, by rw [HS2.out]; omega, by simp, rfl, hide HY.out.symm, hide (bel_alloc HB.out _)⟩
      case measure => simp [intOf]; omega
end Go.Proofs.YtcagcfhnbphggaaGreatDoor
