/- What termOf and sizedTerm answer: a term of the call's own. -/
import Derived.Test.YtbgibiongnhjoaaGreatTeD
import Derived.Test.YtbgibiongnhjoaaGreatMkT
import Derived.Test.YtbgibiongnhjoaaGreatSpD
import Derived.Test.YtbgibiongnhjoaaGreatDraw
import Derived.Test.YtbgibiongnhjoaaGreatFits
namespace Go.Proofs.YtbgibiongnhjoaaGreat
open Go.ChangeShapes Go.WideShapes Go.ChangeAt Go.RowKit

set_option maxRecDepth 20000 in
set_option maxHeartbeats 8000000 in
theorem termOf_any (base Sb mb gb clock : Nat) (L : List (Nk × Nat × Nat)) (Z : Nat → Zs) (H : Nat → Bool) (w : World) (hs : St base w Sb mb gb clock L Z H) (hbase : base ≤ w.heap.size) (T : Tt) (b : Nat) (hT : IsT L T b) (hP : T.all levP) :
    Calls Tryz.prog 55 #[.pointer (some ⟨b, 0, none⟩)] w fun e w' => ∃ g cap, e = .returned (.agg #[.slice (some ⟨g, 0, none⟩) T.cnt cap]) ∧ TmV w.heap.size w'.heap.size w' (.slice (some ⟨g, 0, none⟩) T.cnt cap) (T.flat 0) ∧ Below w.heap.size w w' := by
  have hmf : ∀ (fn : Fn) (first cap : Array Value) (w : World), (Instr.makeFunc fn first cap).run Tryz.prog w = .ok (.func fn first cap) w := fun _ _ _ _ => rfl
  obtain ⟨i67, hi67, hz67, hs67, hb67⟩ := info_parts Tryz.info67
  have hcnt := (ist_lt hs hT).1
  have hz := ist_z hs T.cnt T b (Nat.le_refl _) hT
  obtain ⟨qs, c, hql, hqm, _⟩ := ist_open hT
  obtain ⟨lv, ls, nbt, _⟩ := (hs.ents _ hqm).node
  have nbt : NbAt w b (tmL (keyP T.hd qs) lv (Z b) (H b)) := nbt
  rw [hz] at nbt
  have a9 : w.cell? ⟨b, 9, none⟩ = some (.int .i64 T.cnt) := by rw [nbt.cell 9 (by omega)]; show some (Value.int .i64 T.z.sz) = _; rw [T.z_sz]
  have hbl := lt_cell a9
  have HF := hide (fun (nb : Nat) (hnb : w.heap.size ≤ nb) (W : World) (hW : Below w.heap.size w W) (ht : TmAt w.heap.size nb W []) => foldT_all base Sb mb gb clock L Z H w hs hbase nb w.heap.size (Nat.le_refl _) hnb T.cnt T b 0 W [] (Nat.le_refl _) hT hP (Int.le_refl _) (by omega) hW ht (by simp; omega))
  have hfl : (T.flat 0).length = T.cnt := T.flat_len 0
  have HFL := hide hfl
  obtain ⟨W1, hW1⟩ : ∃ W1, W1 = w.alloc (.cells #[.slice none 0 0] 28) := ⟨_, rfl⟩
  have hb1 : Below w.heap.size w W1 := by rw [hW1]; exact bel_alloc (Below.refl _ _) _
  have hr1 : W1.heap[w.heap.size]? = some (.cells #[.slice none 0 0] 28 (0, 0)) := by rw [hW1]; exact heap_alloc_new w _
  have a9 := keep_cell hb1 a9
  have hbl := lt_cell a9
  have HB1 := hide hb1
  have HR1 := hide hr1
  have hs1 : w.heap.size < W1.heap.size := (Array.getElem?_eq_some_iff.1 hr1).1
  clear hs hbase hT hP hz hql hqm nbt hb1 hr1 hfl
  go_enter Tryz.func55, Tryz.ntmps55
  go_upto_region 1 with fail
  rw [← hW1]
  clear hW1
  go_wp2_with (first
    | (at_make
       refine wpList_make_own _ rfl _ _ 26 rfl w.heap.size 67 i67 (.agg #[.int .i64 0, .int .i64 0, .int .i64 0, .string ⟨#[]⟩, .slice none 0 0, .slice none 0 0]) 6 Tryz.underlying26 hi67 hz67 hs67 .i64 .i64 (T.cnt : Int) T.cnt rfl rfl (by simp) (by rw [hb67]; omega) (by unfold maxLen; omega) HB1.out.size ?_
       intro w2 hown2 hgrow2
       have hb2 : Below W1.heap.size W1 w2 := (Below.refl _ _).grown hgrow2 (Nat.le_refl _) (fun k hk => by cases hk)
       have hb3 : Below w2.heap.size w2 (w2.alloc (.cells #[.slice (some ⟨W1.heap.size, 0, none⟩) 0 T.cnt] 26)) := bel_alloc (Below.refl _ _) _
       have hh3 : (w2.alloc (.cells #[.slice (some ⟨W1.heap.size, 0, none⟩) 0 T.cnt] 26)).heap[w2.heap.size]? = some (.cells #[.slice (some ⟨W1.heap.size, 0, none⟩) 0 T.cnt] 26 (0, 0)) := heap_alloc_new w2 _
       have HB3 := hide (bel_trans (bel_trans HB1.out hb2) hb3)
       have HR3 : Hid ((w2.alloc (.cells #[.slice (some ⟨W1.heap.size, 0, none⟩) 0 T.cnt] 26)).heap[w.heap.size]? = some (.cells #[.slice none 0 0] 28 (0, 0))) := by
         show _ = _
         rw [hb3.block _ (Nat.lt_of_lt_of_le hs1 hb2.size), hb2.block _ hs1]; exact HR1.out
       have hsz2 := hb2.size
       have HTM : Hid (TmAt w.heap.size w2.heap.size (w2.alloc (.cells #[.slice (some ⟨W1.heap.size, 0, none⟩) 0 T.cnt] 26)) []) := by
         refine ⟨HB3.out.size, W1.heap.size, T.cnt, hh3, [], fun _ => 0, fun _ => 0, row_keep hb3 hown2, ⟨fun i h => by simp at h, fun i j _ h => by simp at h⟩, fun q hq => ⟨?_, fun i h => by simp at h⟩, fun i h => by simp at h⟩
         have e : q = W1.heap.size := by simp [Value.ownBlock] at hq; omega
         subst e
         have := (World.ownsRow.lt hown2 W1.heap.size rfl).2
         have := hb3.size
         omega
       obtain ⟨W3, hW3⟩ : ∃ W3, W3 = w2.alloc (.cells #[.slice (some ⟨W1.heap.size, 0, none⟩) 0 T.cnt] 26) := ⟨_, rfl⟩
       rw [← hW3] at HB3 HR3 HTM
       have hs3 : W3.heap.size = w2.heap.size + 1 := by rw [hW3]; simp
       have hnbl : w2.heap.size < W3.heap.size := by omega
       have HS3 := hide hs3
       clear hown2 hgrow2 hb2 hb3 hh3 hs3)
    | fail)
  rw [← hW3]
  have HC := hide (HF.out w2.heap.size (by have := HB1.out.size; omega) W3 HB3.out HTM.out)
  rw [show (([] : List Td).length + T.cnt : Nat) = T.cnt by simp] at HC
  clear hW3 HF HTM a9 hbl
  generalize hnb : w2.heap.size = nb at *
  have hnw : w.heap.size < nb := by omega
  clear hnb
  refine HC.out.mono ?_
  rintro e w4 ⟨rfl, ⟨hlo4, R, cap, h1, h2⟩, hk4⟩
  have hfl : ([] ++ T.flat ([] : List Td).length : List Td) = T.flat 0 := rfl
  rw [hfl, HFL.out] at h1
  rw [hfl, HFL.out] at h2
  have hr4 : w4.heap[w.heap.size]? = some (.cells #[.slice none 0 0] 28 (0, 0)) := by
    rw [hk4.block _ (by have := HB3.out.size; omega) (by omega) (.inr (fun cs f h => by
      rw [HR3.out] at h
      have h2 := Option.some.inj h
      injection h2 with _ h3 _
      cases h3))]
    exact HR3.out
  have c4 : w4.cell? ⟨nb, 0, none⟩ = some (.slice (some ⟨R, 0, none⟩) T.cnt cap) := by rw [Lib.cell_of_heap h1]; rfl
  have d4 : w4.cell? ⟨w.heap.size, 0, none⟩ = some (.slice none 0 0) := by rw [Lib.cell_of_heap hr4]; rfl
  have f4 : w4.frozen? ⟨w.heap.size, 0, none⟩ = false := Lib.frozen_of_heap hr4 0
  have l4 := lt_cell c4
  have l5 := lt_cell d4
  have HB4 := hide (hk4.below HB3.out HB3.out.size (Nat.le_refl _) (by omega))
  have HV4 := hide h2
  have HR4 := hide hr4
  clear h1 h2 hk4 hr4 hfl HC
  go_wp2_with fail
  refine bodyPost_ret (v := .agg #[.slice (some ⟨R, 0, none⟩) T.cnt cap]) (by simp [results, Tryz.results55, go_sem, d4]) rfl ⟨R, cap, rfl, ?_, ?_⟩
  · rw [size_set]
    exact tmV_off' HV4.out HR4.out (by decide) (fun k hk => Below.heap_setCell w4 _ _ k hk)
  · exact HB4.out.setCell (p := ⟨_, _, _⟩) (by show _ ≤ w.heap.size; omega) _
end Go.Proofs.YtbgibiongnhjoaaGreat

/- What variable and lift answer: nodes of the store. -/
namespace Go.Proofs.YtbgibiongnhjoaaGreat
open Go.ChangeShapes Go.WideShapes Go.ChangeAt Go.RowKit

theorem levs_nil (w : World) : LevsAt w (.slice none 0 0) [] := ⟨none, 0, rfl, Nat.le_refl _, by unfold maxLen; omega, fun h => by simp at h⟩
end Go.Proofs.YtbgibiongnhjoaaGreat

/- What sizedTerm answers. -/
namespace Go.Proofs.YtbgibiongnhjoaaGreat
open Go.ChangeShapes Go.WideShapes Go.ChangeAt Go.RowKit

/-- A term that is answered, with its code. -/
def TOut (B : Nat) (w' : World) (e : Ending) (r : List Td × Int) : Prop := ∃ v, e = .returned (.tuple #[.agg #[v], .int .i64 r.2]) ∧ TmV B w'.heap.size w' v r.1
/-- What is answered for a tree, or for one that is too great. -/
def ansT : Option Tt → List Td × Int
  | some T => (T.flat 0, 0)
  | none => ([], 3)
theorem eql_node (b g : Nat) (W : World) (hb : PtrOk W (some b)) (hg : PtrOk W (some g)) : (binOp .eql 80 (.pointer (some ⟨b, 0, none⟩)) (.pointer (some ⟨g, 0, none⟩))).run Tryz.prog W = .ok (.bool (decide (b = g))) W := by
  have h := eq_ptr 9999 (some b) (some g) W hb hg
  simp only [pv] at h
  simp [binOp, Op.equal, Op.maxDepth, h]
theorem ptr_ist {base : Nat} {w : World} {Sb mb gb clock : Nat} {L : List (Nk × Nat × Nat)} {Z : Nat → Zs} {H : Nat → Bool} (hs : St base w Sb mb gb clock L Z H) {T : Tt} {b : Nat} (h : IsT L T b) : PtrOk w (some b) := fun x hx => by
  have e := Option.some.inj hx
  subst e
  obtain ⟨ps, c, hl, hm, hk⟩ := ist_open h
  obtain ⟨cs, h1⟩ := (hs.ents _ hm).ptr
  exact ⟨cs, 131, h1⟩
theorem ptr_great {base : Nat} {w : World} {Sb mb gb clock : Nat} {L : List (Nk × Nat × Nat)} {Z : Nat → Zs} {H : Nat → Bool} (hs : St base w Sb mb gb clock L Z H) : PtrOk w (some gb) := fun x hx => by
  have e := Option.some.inj hx
  subst e
  obtain ⟨cs, h1⟩ := nb_heap hs.great
  exact ⟨cs, 131, h1⟩
set_option maxRecDepth 20000 in
set_option maxHeartbeats 8000000 in
theorem sizedTerm_any (base Sb mb gb clock : Nat) (L : List (Nk × Nat × Nat)) (Z : Nat → Zs) (H : Nat → Bool) (w : World) (hs : St base w Sb mb gb clock L Z H) (hbase : base ≤ w.heap.size) (r : Option Tt) (b : Nat) (hr : Res gb L r b) (hP : ∀ T, r = some T → T.all levP) :
    Calls Tryz.prog 62 #[.pointer (some ⟨Sb, 0, none⟩), .pointer (some ⟨b, 0, none⟩)] w fun e w' => TOut w.heap.size w' e (ansT r) ∧ Below w.heap.size w w' := by
  have s1 := hs.cell.2
  have hsl := lt_cell s1
  obtain ⟨W, hW⟩ : ∃ W, W = w.alloc (.cells #[.slice none 0 0] 28) := ⟨_, rfl⟩
  have hbW : Below w.heap.size w W := by rw [hW]; exact bel_alloc (Below.refl _ _) _
  have hsW := hs.keep hbW hbase
  have c0 : W.cell? ⟨w.heap.size, 0, none⟩ = some (.slice none 0 0) := by rw [hW]; simp [go_sem]
  have f0 : W.frozen? ⟨w.heap.size, 0, none⟩ = false := by rw [hW]; simp [go_sem]
  have l0 := lt_cell c0
  have s1 := hsW.cell.2
  have hsl := lt_cell s1
  have HBW := hide hbW
  cases r with
  | none =>
    have e : b = gb := hr
    subst e
    have HE : Hid (ansT none = ([], 3)) := rfl
    rw [HE.out]
    have heq := eql_node b b W (ptr_great hsW) (ptr_great hsW)
    have hd : decide (b = b) = true := by simp
    rw [hd] at heq
    clear hs hP hr hsW hbW hd
    go_enter Tryz.func62, Tryz.ntmps62
    go_upto_region 1 with fail
    rw [← hW]
    clear hW
    go_wp2_with fail
    refine bodyPost_ret (v := .tuple #[.agg #[.slice none 0 0], .int .i64 3]) (by simp [results, Tryz.results62, go_sem, c0]) rfl ⟨⟨_, rfl, tmV_nil _ _ _⟩, ?_⟩
    exact HBW.out.setCell (p := ⟨_, _, _⟩) (by show _ ≤ w.heap.size; omega) _
  | some T =>
    have hT : IsT L T b := hr
    have hne := (ist_lt hs hT).2.1
    have HE : Hid (ansT (some T) = (T.flat 0, 0)) := rfl
    rw [HE.out]
    have heq := eql_node b gb W (ptr_ist hsW hT) (ptr_great hsW)
    have hd : decide (b = gb) = false := by simp [hne]
    rw [hd] at heq
    have HT := hide (termOf_any base Sb mb gb clock L Z H W hsW (Nat.le_trans hbase hbW.size) T b hT (hP T rfl))
    have HR : Hid (W.heap[w.heap.size]? = some (.cells #[.slice none 0 0] 28 (0, 0))) := by show _ = _; rw [hW]; exact heap_alloc_new w _
    clear hs hP hr hT hsW hbW hd hne
    go_enter Tryz.func62, Tryz.ntmps62
    go_upto_region 1 with fail
    rw [← hW]
    clear hW
    go_wp2_with fail
    refine HT.out.mono ?_
    rintro e w2 ⟨g, cap, rfl, hv, hb2⟩
    have c2 := keep_cell hb2 c0
    have f2 : w2.frozen? ⟨w.heap.size, 0, none⟩ = false := by
      obtain ⟨hc, hf⟩ := bcell hb2
      rw [hf _ _ l0]; exact f0
    have l2 := lt_cell c2
    have HB2 := hide (bel_trans HBW.out hb2)
    have HR2 : Hid (w2.heap[w.heap.size]? = some (.cells #[.slice none 0 0] 28 (0, 0))) := by show _ = _; rw [hb2.block _ l0]; exact HR.out
    have HV := hide (hv.mono HBW.out.size (Nat.le_refl _))
    clear hv hb2
    go_wp2_with fail
    refine bodyPost_ret (v := .tuple #[.agg #[.slice (some ⟨g, 0, none⟩) T.cnt cap], .int .i64 0]) (by simp [results, Tryz.results62, go_sem, c2]) rfl ⟨⟨_, rfl, ?_⟩, ?_⟩
    · rw [size_set]
      exact tmV_off' HV.out HR2.out (by decide) (fun k hk => Below.heap_setCell w2 _ _ k hk)
    · exact HB2.out.setCell (p := ⟨_, _, _⟩) (by show _ ≤ w.heap.size; omega) _
end Go.Proofs.YtbgibiongnhjoaaGreat

/- What the specification's l3Term and l3Answer answer. -/
namespace Go.Proofs.YtbgibiongnhjoaaGreat
open Go.ChangeShapes Go.WideShapes Go.ChangeAt Go.RowKit

theorem nodes_fr {Q : Nat → Prop} {base : Nat} {w w' : World} {v : Value} {ts : List Td} (h : TmQ Q base w v ts) (hg : ∀ g, v.ownBlock = some g → w'.heap[g]? = w.heap[g]?) (hh : ∀ b : Nat, Q b → b < w.heap.size → w'.heap[b]? = w.heap[b]?) : TNodesAt w' v ts := by
  obtain ⟨xs, h1, h4⟩ := h
  have h1' := row_same (w' := w') h1 hg
  rcases h1'.2 with ⟨h3, h0⟩ | ⟨g, cap, cur, h3, _⟩
  · exact ⟨none, 0, by rw [h3, h0], by omega, by unfold maxLen; omega, fun h => by omega⟩
  · subst h3
    obtain ⟨hc1, hc2⟩ := ownsRow_cap h1'
    refine ⟨_, cap, rfl, hc1, hc2, fun _ => ⟨g, 0, rfl, fun i hi => ?_⟩⟩
    obtain ⟨a, b, c, d, lv, kv, e, f, hv⟩ := h4 i hi
    obtain ⟨v1, v2⟩ := hv w' hh
    rw [Nat.zero_add]
    exact ⟨by rw [h1'.cellAt _ (by omega)]; exact a, by rw [h1'.cellAt _ (by omega)]; exact b, by rw [h1'.cellAt _ (by omega)]; exact c, by rw [h1'.cellAt _ (by omega)]; exact d, lv, by rw [h1'.cellAt _ (by omega)]; exact e, v1, kv, by rw [h1'.cellAt _ (by omega)]; exact f, v2⟩
/-- A term to be read in each world that keeps the blocks from B on. -/
def FrT (B : Nat) (w : World) (v : Value) (ts : List Td) : Prop := ∀ w' : World, (∀ b : Nat, B ≤ b → b < w.heap.size → w'.heap[b]? = w.heap[b]?) → TNodesAt w' v ts
theorem FrT.at {B : Nat} {w : World} {v : Value} {ts : List Td} (h : FrT B w v ts) : TNodesAt w v ts := h w (fun _ _ _ => rfl)
theorem FrT.to {B B' : Nat} {w w2 : World} {v : Value} {ts : List Td} (h : FrT B w v ts) (hB : B' ≤ B) (hs : w.heap.size ≤ w2.heap.size) (hh : ∀ b : Nat, B ≤ b → b < w.heap.size → w2.heap[b]? = w.heap[b]?) : FrT B' w2 v ts := fun w' hw' => h w' (fun b q1 q2 => by rw [hw' b (by omega) (by omega), hh b q1 q2])
theorem FrT.low {B B' : Nat} {w : World} {v : Value} {ts : List Td} (h : FrT B w v ts) (hB : B' ≤ B) {p : Addr} (hp : p.block < B) (u : Value) : FrT B' (w.setCell p u) v ts := h.to hB (by rw [size_set]; exact Nat.le_refl _) (fun b q1 _ => Below.heap_setCell w p u b (by omega))
theorem FrT.form {B : Nat} {w : World} {v : Value} {ts : List Td} (h : FrT B w v ts) : ∃ a cap, v = .slice a ts.length cap := by obtain ⟨a, cap, h1, _⟩ := h.at; exact ⟨a, cap, h1⟩
end Go.Proofs.YtbgibiongnhjoaaGreat

/- What the program's Lift answers. -/
namespace Go.Proofs.YtbgibiongnhjoaaGreat
open Go.ChangeShapes Go.WideShapes Go.ChangeAt Go.RowKit

theorem var_lev (n : Int) : (varT n).all levP := ⟨fun l hl => by simp at hl, by simp⟩
theorem fit_some {T T' : Tt} (h : fitT T = some T') : T' = T := by
  unfold fitT sizedT at h
  split at h
  · cases h
  · split at h
    · exact (Option.some.inj h).symm
    · cases h
/-- A term's tree. -/
def TreeFor (ts : List Td) (T : Tt) : Prop := termB ts = true → T.flat 0 = ts ∧ T.all nodeP
theorem tree_for (ts : List Td) : ∃ T, TreeFor ts T := by
  by_cases h : termB ts = true
  · obtain ⟨T, h1, h2, _⟩ := tree_of h
    exact ⟨T, fun _ => ⟨h1, h2⟩⟩
  · exact ⟨varT 0, fun h2 => absurd h2 h⟩
end Go.Proofs.YtbgibiongnhjoaaGreat

/- Plain facts about putting levels: the program's tree and the specification's, and the row of nodes of a tree. -/
namespace Go.Proofs.YtbgibiongnhjoaaGreat
open Go.ChangeShapes Go.WideShapes Go.ChangeAt Go.RowKit

theorem empty_of {s : ByteArray} (h : s.toList.isEmpty = true) : s = ⟨#[]⟩ := by
  rw [ByteArray.toList_eq] at h
  have h := List.isEmpty_iff.1 h
  cases s with
  | mk d => cases d with
    | mk l => simp only at h; rw [h]
/-- A tree's nodes are gone through to its root. -/
theorem run_flat : ∀ (t : Tr) (o : Nat), t.ok → ∀ (ns : List Nd) (st : List Int), (∀ i nd, (t.flat o)[i]? = some nd → ns[o + i]? = some nd) → runTo ns o = some st → runTo ns (o + t.cnt) = some (st ++ [((o + t.cnt - 1 : Nat) : Int)])
  | .leaf k s, o, h, ns, st, hn, hr => by
    have h0 := hn 0 ⟨k, s, []⟩ rfl
    have hk : kidsN k = 0 := by rcases h.1 with rfl | rfl <;> rfl
    have hf : fieldsB ⟨k, s, []⟩ = true := h.2
    simp only [Tr.cnt, runTo, hr, Nat.add_zero] at h0 ⊢
    rw [h0]
    simp [stepN, hk, hf]
  | .one k s a, o, h, ns, st, hn, hr => by
    obtain ⟨rfl, hs, ha⟩ := h
    have l1 := Tr.flat_len a o
    have lp := Tr.cnt_pos a
    have ih := run_flat a o ha ns st (fun i nd hi => hn i nd (by simp only [Tr.flat]; exact get_left _ hi)) hr
    have h0 := hn a.cnt ⟨2, s, [((o + a.cnt - 1 : Nat) : Int)]⟩ (by simp only [Tr.flat]; rw [List.getElem?_append_right (by omega), l1]; simp)
    have hf : fieldsB ⟨2, s, [((o + a.cnt - 1 : Nat) : Int)]⟩ = true := hs
    simp only [Tr.cnt]
    rw [show o + (1 + a.cnt) = (o + a.cnt) + 1 from by omega]
    simp only [runTo, ih]
    rw [h0]
    have hk : kidsN 2 = 1 := rfl
    simp [stepN, hk, hf]
    omega
  | .two k s a b, o, h, ns, st, hn, hr => by
    obtain ⟨hk, hs, ha, hb⟩ := h
    have l1 := Tr.flat_len a o
    have l2 := Tr.flat_len b (o + a.cnt)
    have lp := Tr.cnt_pos a
    have lq := Tr.cnt_pos b
    have ih := run_flat a o ha ns st (fun i nd hi => hn i nd (by simp only [Tr.flat]; exact get_left _ (get_left _ hi))) hr
    have ih2 := run_flat b (o + a.cnt) hb ns _ (fun i nd hi => by
      have := hn (a.cnt + i) nd (by simp only [Tr.flat]; have := get_left [(⟨k, s, [((o + a.cnt - 1 : Nat) : Int), ((o + a.cnt + b.cnt - 1 : Nat) : Int)]⟩ : Nd)] (get_right (a.flat o) hi); rwa [l1] at this)
      rwa [← Nat.add_assoc] at this) ih
    have h0 := hn (a.cnt + b.cnt) ⟨k, s, [((o + a.cnt - 1 : Nat) : Int), ((o + a.cnt + b.cnt - 1 : Nat) : Int)]⟩ (by simp only [Tr.flat]; rw [List.getElem?_append_right (by simp; omega)]; simp [l1, l2])
    have hf : fieldsB ⟨k, s, [((o + a.cnt - 1 : Nat) : Int), ((o + a.cnt + b.cnt - 1 : Nat) : Int)]⟩ = true := hs
    simp only [Tr.cnt]
    rw [show o + (1 + a.cnt + b.cnt) = (o + a.cnt + b.cnt) + 1 from by omega]
    simp only [runTo, ih2]
    rw [← Nat.add_assoc] at h0
    rw [h0]
    have hk : kidsN k = 2 := by rcases hk with rfl | rfl <;> rfl
    simp [stepN, hk, hf]
    omega
theorem lvl_flat (t : Tr) (h : t.ok) : lvlB (t.flat 0) = fitsB t := by
  have hr := run_flat t 0 h (t.flat 0) [] (fun i nd hi => by rw [Nat.zero_add]; exact hi) rfl
  have hl := Tr.flat_len t 0
  have hp := Tr.cnt_pos t
  have hn : namesOf (t.flat 0) = t.names [] := (Tr.names_flat t 0 [] h).symm
  unfold lvlB fitsB
  rw [Nat.zero_add] at hr
  rw [hl, hr, hn]
  simp [hp]
end Go.Proofs.YtbgibiongnhjoaaGreat
