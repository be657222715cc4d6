/- What termOf and sizedTerm answer: a term of the call's own. -/
import Derived.Test.YtbgibiongnhjoaaGreatTeD
import Derived.Test.YtbgibiongnhjoaaGreatSpC
import Derived.Test.YtbgibiongnhjoaaGreatSpD
namespace Go.Proofs.YtbgibiongnhjoaaGreat
open Go.ChangeShapes Go.WideShapes Go.ChangeAt Go.RowKit

set_option maxRecDepth 20000 in
set_option maxHeartbeats 8000000 in
theorem termOf_any (base Sb mb gb clock : Nat) (L : List (Nk × Nat × Nat)) (Z : Nat → Zs) (H : Nat → Bool) (w : World) (hs : St base w Sb mb gb clock L Z H) (hbase : base ≤ w.heap.size) (T : Tt) (b : Nat) (hT : IsT L T b) (hP : T.all levP) :
    Calls Tryz.prog 55 #[.pointer (some ⟨b, 0, none⟩)] w fun e w' => ∃ g cap, e = .returned (.agg #[.slice (some ⟨g, 0, none⟩) T.cnt cap]) ∧ TmV w.heap.size w'.heap.size w' (.slice (some ⟨g, 0, none⟩) T.cnt cap) (T.flat 0) ∧ Below w.heap.size w w' := by
  have hmf : ∀ (fn : Fn) (first cap : Array Value) (w : World), (Instr.makeFunc fn first cap).run Tryz.prog w = .ok (.func fn first cap) w := fun _ _ _ _ => rfl
  obtain ⟨i67, hi67, hz67, hs67, hb67⟩ := info_parts Tryz.info67
  have hcnt := (ist_lt hs hT).1
  have hz := ist_z hs T.cnt T b (Nat.le_refl _) hT
  obtain ⟨qs, c, hql, hqm, _⟩ := ist_open hT
  obtain ⟨lv, ls, nbt, _⟩ := (hs.ents _ hqm).node
  have nbt : NbAt w b (tmL (keyP T.hd qs) lv (Z b) (H b)) := nbt
  rw [hz] at nbt
  have a9 : w.cell? ⟨b, 9, none⟩ = some (.int .i64 T.cnt) := by rw [nbt.cell 9 (by omega)]; show some (Value.int .i64 T.z.sz) = _; rw [T.z_sz]
  have hbl := lt_cell a9
  have HF := hide (fun (nb : Nat) (hnb : w.heap.size ≤ nb) (W : World) (hW : Below w.heap.size w W) (ht : TmAt w.heap.size nb W []) => foldT_all base Sb mb gb clock L Z H w hs hbase nb w.heap.size (Nat.le_refl _) hnb T.cnt T b 0 W [] (Nat.le_refl _) hT hP (Int.le_refl _) (by omega) hW ht (by simp; omega))
  have hfl : (T.flat 0).length = T.cnt := T.flat_len 0
  have HFL := hide hfl
  obtain ⟨W1, hW1⟩ : ∃ W1, W1 = w.alloc (.cells #[.slice none 0 0] 28) := ⟨_, rfl⟩
  have hb1 : Below w.heap.size w W1 := by rw [hW1]; exact bel_alloc (Below.refl _ _) _
  have hr1 : W1.heap[w.heap.size]? = some (.cells #[.slice none 0 0] 28 (0, 0)) := by rw [hW1]; exact heap_alloc_new w _
  have a9 := keep_cell hb1 a9
  have hbl := lt_cell a9
  have HB1 := hide hb1
  have HR1 := hide hr1
  have hs1 : w.heap.size < W1.heap.size := (Array.getElem?_eq_some_iff.1 hr1).1
  clear hs hbase hT hP hz hql hqm nbt hb1 hr1 hfl
  go_enter Tryz.func55, Tryz.ntmps55
  go_upto_region 1 with fail
  rw [← hW1]
  clear hW1
  go_wp2_with (first
    | (at_make
       refine wpList_make_own _ rfl _ _ 26 rfl w.heap.size 67 i67 (.agg #[.int .i64 0, .int .i64 0, .int .i64 0, .string ⟨#[]⟩, .slice none 0 0, .slice none 0 0]) 6 Tryz.underlying26 hi67 hz67 hs67 .i64 .i64 (T.cnt : Int) T.cnt rfl rfl (by simp) (by rw [hb67]; omega) (by unfold maxLen; omega) HB1.out.size ?_
       intro w2 hown2 hgrow2
       have hb2 : Below W1.heap.size W1 w2 := (Below.refl _ _).grown hgrow2 (Nat.le_refl _) (fun k hk => by cases hk)
       have hb3 : Below w2.heap.size w2 (w2.alloc (.cells #[.slice (some ⟨W1.heap.size, 0, none⟩) 0 T.cnt] 26)) := bel_alloc (Below.refl _ _) _
       have hh3 : (w2.alloc (.cells #[.slice (some ⟨W1.heap.size, 0, none⟩) 0 T.cnt] 26)).heap[w2.heap.size]? = some (.cells #[.slice (some ⟨W1.heap.size, 0, none⟩) 0 T.cnt] 26 (0, 0)) := heap_alloc_new w2 _
       have HB3 := hide (bel_trans (bel_trans HB1.out hb2) hb3)
       have HR3 : Hid ((w2.alloc (.cells #[.slice (some ⟨W1.heap.size, 0, none⟩) 0 T.cnt] 26)).heap[w.heap.size]? = some (.cells #[.slice none 0 0] 28 (0, 0))) := by
         show _ = _
         rw [hb3.block _ (Nat.lt_of_lt_of_le hs1 hb2.size), hb2.block _ hs1]; exact HR1.out
       have hsz2 := hb2.size
       have HTM : Hid (TmAt w.heap.size w2.heap.size (w2.alloc (.cells #[.slice (some ⟨W1.heap.size, 0, none⟩) 0 T.cnt] 26)) []) := by
         refine ⟨HB3.out.size, W1.heap.size, T.cnt, hh3, [], fun _ => 0, fun _ => 0, row_keep hb3 hown2, ⟨fun i h => by simp at h, fun i j _ h => by simp at h⟩, fun q hq => ⟨?_, fun i h => by simp at h⟩, fun i h => by simp at h⟩
         have e : q = W1.heap.size := by simp [Value.ownBlock] at hq; omega
         subst e
         have := (World.ownsRow.lt hown2 W1.heap.size rfl).2
         have := hb3.size
         omega
       obtain ⟨W3, hW3⟩ : ∃ W3, W3 = w2.alloc (.cells #[.slice (some ⟨W1.heap.size, 0, none⟩) 0 T.cnt] 26) := ⟨_, rfl⟩
       rw [← hW3] at HB3 HR3 HTM
       have hs3 : W3.heap.size = w2.heap.size + 1 := by rw [hW3]; simp
       have hnbl : w2.heap.size < W3.heap.size := by omega
       have HS3 := hide hs3
       clear hown2 hgrow2 hb2 hb3 hh3 hs3)
    | fail)
  rw [← hW3]
  have HC := hide (HF.out w2.heap.size (by have := HB1.out.size; omega) W3 HB3.out HTM.out)
  rw [show (([] : List Td).length + T.cnt : Nat) = T.cnt by simp] at HC
  clear hW3 HF HTM a9 hbl
  generalize hnb : w2.heap.size = nb at *
  have hnw : w.heap.size < nb := by omega
  clear hnb
  refine HC.out.mono ?_
  rintro e w4 ⟨rfl, ⟨hlo4, R, cap, h1, h2⟩, hk4⟩
  have hfl : ([] ++ T.flat ([] : List Td).length : List Td) = T.flat 0 := rfl
  rw [hfl, HFL.out] at h1
  rw [hfl, HFL.out] at h2
  have hr4 : w4.heap[w.heap.size]? = some (.cells #[.slice none 0 0] 28 (0, 0)) := by
    rw [hk4.block _ (by have := HB3.out.size; omega) (by omega) (.inr (fun cs f h => by
      rw [HR3.out] at h
      have h2 := Option.some.inj h
      injection h2 with _ h3 _
      cases h3))]
    exact HR3.out
  have c4 : w4.cell? ⟨nb, 0, none⟩ = some (.slice (some ⟨R, 0, none⟩) T.cnt cap) := by rw [Lib.cell_of_heap h1]; rfl
  have d4 : w4.cell? ⟨w.heap.size, 0, none⟩ = some (.slice none 0 0) := by rw [Lib.cell_of_heap hr4]; rfl
  have f4 : w4.frozen? ⟨w.heap.size, 0, none⟩ = false := Lib.frozen_of_heap hr4 0
  have l4 := lt_cell c4
  have l5 := lt_cell d4
  have HB4 := hide (hk4.below HB3.out HB3.out.size (Nat.le_refl _) (by omega))
  have HV4 := hide h2
  have HR4 := hide hr4
  clear h1 h2 hk4 hr4 hfl HC
  go_wp2_with fail
  refine bodyPost_ret (v := .agg #[.slice (some ⟨R, 0, none⟩) T.cnt cap]) (by simp [results, Tryz.results55, go_sem, d4]) rfl ⟨R, cap, rfl, ?_, ?_⟩
  · rw [size_set]
    exact tmV_off' HV4.out HR4.out (by decide) (fun k hk => Below.heap_setCell w4 _ _ k hk)
  · exact HB4.out.setCell (p := ⟨_, _, _⟩) (by show _ ≤ w.heap.size; omega) _
end Go.Proofs.YtbgibiongnhjoaaGreat

/- What variable and lift answer: nodes of the store. -/
namespace Go.Proofs.YtbgibiongnhjoaaGreat
open Go.ChangeShapes Go.WideShapes Go.ChangeAt Go.RowKit

theorem levs_nil (w : World) : LevsAt w (.slice none 0 0) [] := ⟨none, 0, rfl, Nat.le_refl _, by unfold maxLen; omega, fun h => by simp at h⟩
end Go.Proofs.YtbgibiongnhjoaaGreat

/- What sizedTerm answers. -/
namespace Go.Proofs.YtbgibiongnhjoaaGreat
open Go.ChangeShapes Go.WideShapes Go.ChangeAt Go.RowKit

/-- A term that is answered, with its code. -/
def TOut (B : Nat) (w' : World) (e : Ending) (r : List Td × Int) : Prop := ∃ v, e = .returned (.tuple #[.agg #[v], .int .i64 r.2]) ∧ TmV B w'.heap.size w' v r.1
/-- What is answered for a tree, or for one that is too great. -/
def ansT : Option Tt → List Td × Int
  | some T => (T.flat 0, 0)
  | none => ([], 3)
theorem eql_node (b g : Nat) (W : World) (hb : PtrOk W (some b)) (hg : PtrOk W (some g)) : (binOp .eql 80 (.pointer (some ⟨b, 0, none⟩)) (.pointer (some ⟨g, 0, none⟩))).run Tryz.prog W = .ok (.bool (decide (b = g))) W := by
  have h := eq_ptr 9999 (some b) (some g) W hb hg
  simp only [pv] at h
  simp [binOp, Op.equal, Op.maxDepth, h]
theorem ptr_ist {base : Nat} {w : World} {Sb mb gb clock : Nat} {L : List (Nk × Nat × Nat)} {Z : Nat → Zs} {H : Nat → Bool} (hs : St base w Sb mb gb clock L Z H) {T : Tt} {b : Nat} (h : IsT L T b) : PtrOk w (some b) := fun x hx => by
  have e := Option.some.inj hx
  subst e
  obtain ⟨ps, c, hl, hm, hk⟩ := ist_open h
  obtain ⟨cs, h1⟩ := (hs.ents _ hm).ptr
  exact ⟨cs, 131, h1⟩
theorem ptr_great {base : Nat} {w : World} {Sb mb gb clock : Nat} {L : List (Nk × Nat × Nat)} {Z : Nat → Zs} {H : Nat → Bool} (hs : St base w Sb mb gb clock L Z H) : PtrOk w (some gb) := fun x hx => by
  have e := Option.some.inj hx
  subst e
  obtain ⟨cs, h1⟩ := nb_heap hs.great
  exact ⟨cs, 131, h1⟩
set_option maxRecDepth 20000 in
set_option maxHeartbeats 8000000 in
theorem sizedTerm_any (base Sb mb gb clock : Nat) (L : List (Nk × Nat × Nat)) (Z : Nat → Zs) (H : Nat → Bool) (w : World) (hs : St base w Sb mb gb clock L Z H) (hbase : base ≤ w.heap.size) (r : Option Tt) (b : Nat) (hr : Res gb L r b) (hP : ∀ T, r = some T → T.all levP) :
    Calls Tryz.prog 62 #[.pointer (some ⟨Sb, 0, none⟩), .pointer (some ⟨b, 0, none⟩)] w fun e w' => TOut w.heap.size w' e (ansT r) ∧ Below w.heap.size w w' := by
  have s1 := hs.cell.2
  have hsl := lt_cell s1
  obtain ⟨W, hW⟩ : ∃ W, W = w.alloc (.cells #[.slice none 0 0] 28) := ⟨_, rfl⟩
  have hbW : Below w.heap.size w W := by rw [hW]; exact bel_alloc (Below.refl _ _) _
  have hsW := hs.keep hbW hbase
  have c0 : W.cell? ⟨w.heap.size, 0, none⟩ = some (.slice none 0 0) := by rw [hW]; simp [go_sem]
  have f0 : W.frozen? ⟨w.heap.size, 0, none⟩ = false := by rw [hW]; simp [go_sem]
  have l0 := lt_cell c0
  have s1 := hsW.cell.2
  have hsl := lt_cell s1
  have HBW := hide hbW
  cases r with
  | none =>
    have e : b = gb := hr
    subst e
    have HE : Hid (ansT none = ([], 3)) := rfl
    rw [HE.out]
    have heq := eql_node b b W (ptr_great hsW) (ptr_great hsW)
    have hd : decide (b = b) = true := by simp
    rw [hd] at heq
    clear hs hP hr hsW hbW hd
    go_enter Tryz.func62, Tryz.ntmps62
    go_upto_region 1 with fail
    rw [← hW]
    clear hW
    go_wp2_with fail
    refine bodyPost_ret (v := .tuple #[.agg #[.slice none 0 0], .int .i64 3]) (by simp [results, Tryz.results62, go_sem, c0]) rfl ⟨⟨_, rfl, tmV_nil _ _ _⟩, ?_⟩
    exact HBW.out.setCell (p := ⟨_, _, _⟩) (by show _ ≤ w.heap.size; omega) _
  | some T =>
    have hT : IsT L T b := hr
    have hne := (ist_lt hs hT).2.1
    have HE : Hid (ansT (some T) = (T.flat 0, 0)) := rfl
    rw [HE.out]
    have heq := eql_node b gb W (ptr_ist hsW hT) (ptr_great hsW)
    have hd : decide (b = gb) = false := by simp [hne]
    rw [hd] at heq
    have HT := hide (termOf_any base Sb mb gb clock L Z H W hsW (Nat.le_trans hbase hbW.size) T b hT (hP T rfl))
    have HR : Hid (W.heap[w.heap.size]? = some (.cells #[.slice none 0 0] 28 (0, 0))) := by show _ = _; rw [hW]; exact heap_alloc_new w _
    clear hs hP hr hT hsW hbW hd hne
    go_enter Tryz.func62, Tryz.ntmps62
    go_upto_region 1 with fail
    rw [← hW]
    clear hW
    go_wp2_with fail
    refine HT.out.mono ?_
    rintro e w2 ⟨g, cap, rfl, hv, hb2⟩
    have c2 := keep_cell hb2 c0
    have f2 : w2.frozen? ⟨w.heap.size, 0, none⟩ = false := by
      obtain ⟨hc, hf⟩ := bcell hb2
      rw [hf _ _ l0]; exact f0
    have l2 := lt_cell c2
    have HB2 := hide (bel_trans HBW.out hb2)
    have HR2 : Hid (w2.heap[w.heap.size]? = some (.cells #[.slice none 0 0] 28 (0, 0))) := by show _ = _; rw [hb2.block _ l0]; exact HR.out
    have HV := hide (hv.mono HBW.out.size (Nat.le_refl _))
    clear hv hb2
    go_wp2_with fail
    refine bodyPost_ret (v := .tuple #[.agg #[.slice (some ⟨g, 0, none⟩) T.cnt cap], .int .i64 0]) (by simp [results, Tryz.results62, go_sem, c2]) rfl ⟨⟨_, rfl, ?_⟩, ?_⟩
    · rw [size_set]
      exact tmV_off' HV.out HR2.out (by decide) (fun k hk => Below.heap_setCell w2 _ _ k hk)
    · exact HB2.out.setCell (p := ⟨_, _, _⟩) (by show _ ≤ w.heap.size; omega) _
end Go.Proofs.YtbgibiongnhjoaaGreat

/- What the specification's l3Term and l3Answer answer. -/
namespace Go.Proofs.YtbgibiongnhjoaaGreat
open Go.ChangeShapes Go.WideShapes Go.ChangeAt Go.RowKit

theorem nodes_fr {Q : Nat → Prop} {base : Nat} {w w' : World} {v : Value} {ts : List Td} (h : TmQ Q base w v ts) (hg : ∀ g, v.ownBlock = some g → w'.heap[g]? = w.heap[g]?) (hh : ∀ b : Nat, Q b → b < w.heap.size → w'.heap[b]? = w.heap[b]?) : TNodesAt w' v ts := by
  obtain ⟨xs, h1, h4⟩ := h
  have h1' := row_same (w' := w') h1 hg
  rcases h1'.2 with ⟨h3, h0⟩ | ⟨g, cap, cur, h3, _⟩
  · exact ⟨none, 0, by rw [h3, h0], by omega, by unfold maxLen; omega, fun h => by omega⟩
  · subst h3
    obtain ⟨hc1, hc2⟩ := ownsRow_cap h1'
    refine ⟨_, cap, rfl, hc1, hc2, fun _ => ⟨g, 0, rfl, fun i hi => ?_⟩⟩
    obtain ⟨a, b, c, d, lv, kv, e, f, hv⟩ := h4 i hi
    obtain ⟨v1, v2⟩ := hv w' hh
    rw [Nat.zero_add]
    exact ⟨by rw [h1'.cellAt _ (by omega)]; exact a, by rw [h1'.cellAt _ (by omega)]; exact b, by rw [h1'.cellAt _ (by omega)]; exact c, by rw [h1'.cellAt _ (by omega)]; exact d, lv, by rw [h1'.cellAt _ (by omega)]; exact e, v1, kv, by rw [h1'.cellAt _ (by omega)]; exact f, v2⟩
/-- A term to be read in each world that keeps the blocks from B on. -/
def FrT (B : Nat) (w : World) (v : Value) (ts : List Td) : Prop := ∀ w' : World, (∀ b : Nat, B ≤ b → b < w.heap.size → w'.heap[b]? = w.heap[b]?) → TNodesAt w' v ts
theorem FrT.at {B : Nat} {w : World} {v : Value} {ts : List Td} (h : FrT B w v ts) : TNodesAt w v ts := h w (fun _ _ _ => rfl)
theorem FrT.to {B B' : Nat} {w w2 : World} {v : Value} {ts : List Td} (h : FrT B w v ts) (hB : B' ≤ B) (hs : w.heap.size ≤ w2.heap.size) (hh : ∀ b : Nat, B ≤ b → b < w.heap.size → w2.heap[b]? = w.heap[b]?) : FrT B' w2 v ts := fun w' hw' => h w' (fun b q1 q2 => by rw [hw' b (by omega) (by omega), hh b q1 q2])
theorem FrT.low {B B' : Nat} {w : World} {v : Value} {ts : List Td} (h : FrT B w v ts) (hB : B' ≤ B) {p : Addr} (hp : p.block < B) (u : Value) : FrT B' (w.setCell p u) v ts := h.to hB (by rw [size_set]; exact Nat.le_refl _) (fun b q1 _ => Below.heap_setCell w p u b (by omega))
theorem frt_nil (B : Nat) (w : World) : FrT B w (.slice none 0 0) [] := fun _ _ => ⟨none, 0, rfl, Nat.le_refl _, by unfold maxLen; omega, fun h => by simp at h⟩
theorem FrT.form {B : Nat} {w : World} {v : Value} {ts : List Td} (h : FrT B w v ts) : ∃ a cap, v = .slice a ts.length cap := by obtain ⟨a, cap, h1, _⟩ := h.at; exact ⟨a, cap, h1⟩
set_option maxRecDepth 20000 in
set_option maxHeartbeats 4000000 in
theorem l3Term_any (Qs : Nat → Prop) (T : Tt) (p : Nat) (w : World) (hS : SpG Qs w T p) (hP : T.all levP) (hc : T.cnt ≤ 20000) :
    Calls Tryz.prog 50 #[.pointer (some ⟨p, 0, none⟩)] w fun e w' => ∃ v, e = .returned (.agg #[v]) ∧ FrT w.heap.size w' v (T.flat 0) ∧ Below w.heap.size w w' := by
  obtain ⟨W1, hW1⟩ : ∃ W1, W1 = w.alloc (.cells #[.slice none 0 0] 28) := ⟨_, rfl⟩
  obtain ⟨W2, hW2⟩ : ∃ W2, W2 = W1.alloc (.cells #[] 67) := ⟨_, rfl⟩
  have hb1 : Below w.heap.size w W1 := by rw [hW1]; exact bel_alloc (Below.refl _ _) _
  have hb2 : Below W1.heap.size W1 W2 := by rw [hW2]; exact bel_alloc (Below.refl _ _) _
  have hr1 : W1.heap[w.heap.size]? = some (.cells #[.slice none 0 0] 28 (0, 0)) := by rw [hW1]; exact heap_alloc_new w _
  have l1 : w.heap.size < W1.heap.size := (Array.getElem?_eq_some_iff.1 hr1).1
  have HR2 : Hid (W2.heap[w.heap.size]? = some (.cells #[.slice none 0 0] 28 (0, 0))) := by show _ = _; rw [hb2.block _ l1]; exact hr1
  have HB2 := hide (bel_trans hb1 hb2)
  have ho : W2.ownsRow W1.heap.size 67 6 (.slice (some ⟨W1.heap.size, 0, none⟩) 0 0) 0 [] := by
    rw [hW2]
    exact ⟨rfl, .inr ⟨W1.heap.size, 0, #[], rfl, Nat.le_refl _, heap_alloc_new W1 _, Nat.le_refl _, by unfold maxLen; omega, rfl, rfl⟩⟩
  have HC := hide (l3Nodes_all Qs W1 T.cnt T p W2 W1.heap.size 0 [] (fun _ => False) (Nat.le_refl _) (hS.keep hb1) hP hb2 ⟨[], ho, fun i h => by simp at h⟩ (fun b hb => by cases hb) (by simp; omega))
  have hs2 : W1.heap.size < W2.heap.size := by rw [hW2]; simp
  have hs1 : W1.heap.size = w.heap.size + 1 := by rw [hW1]; simp
  have HS1 := hide hs1
  clear hS hP hb1 hb2 hr1 ho hs1
  go_enter Tryz.func50, Tryz.ntmps50
  go_upto_region 1 with fail
  rw [← hW1]
  clear hW1
  go_wp2_with fail
  first | rw [← hW2] | skip
  refine HC.out.mono ?_
  rintro e w3 ⟨g, cap, rfl, htm, hg, hor⟩
  have hne : w.heap.size ≠ W1.heap.size := by have := HS1.out; omega
  have hr3 : w3.heap[w.heap.size]? = some (.cells #[.slice none 0 0] 28 (0, 0)) := by rw [hg.block _ (by omega) (fun e => hne (Option.some.inj e))]; exact HR2.out
  have c3 : w3.cell? ⟨w.heap.size, 0, none⟩ = some (.slice none 0 0) := by rw [Lib.cell_of_heap hr3]; rfl
  have f3 : w3.frozen? ⟨w.heap.size, 0, none⟩ = false := Lib.frozen_of_heap hr3 0
  have l3 := lt_cell c3
  have HB3 : Hid (Below w.heap.size w w3) := HB2.out.grown hg HB2.out.size (fun k hk => by have := Option.some.inj hk; have := HS1.out; omega)
  have hg1 : W1.heap.size ≤ g := by rcases hor with h | h <;> omega
  have HTM : Hid (FrT (w.heap.size + 1) w3 (.slice (some ⟨g, 0, none⟩) T.cnt cap) (T.flat 0)) := by
    show FrT _ _ _ _
    intro w' hw
    have hS1 := HS1.out
    obtain ⟨xs, q1, q2⟩ := htm
    have hgl := (World.ownsRow.lt q1 g rfl).2
    have h2 := nodes_fr (w' := w') ⟨xs, q1, q2⟩ (fun q hq => hw q (by simp [Value.ownBlock] at hq; omega) (by simp [Value.ownBlock] at hq; omega)) (fun b hb hl => hw b (by
      rcases hb with h | h
      · exact absurd h.1 id
      · omega) hl)
    simpa using h2
  clear htm hg hor hr3 HC hne
  have hz : ([] : List Td).length + T.cnt = T.cnt := by simp
  rw [hz]
  clear hz
  go_wp2_with fail
  refine bodyPost_ret (v := .agg #[.slice (some ⟨g, 0, none⟩) T.cnt cap]) (by simp [results, Tryz.results50, go_sem, c3]) rfl ⟨_, rfl, HTM.out.low (by omega) (p := ⟨_, _, _⟩) (by show w.heap.size < _; omega) _, ?_⟩
  exact HB3.out.setCell (p := ⟨_, _, _⟩) (by show _ ≤ w.heap.size; omega) _
end Go.Proofs.YtbgibiongnhjoaaGreat

/- What the program's Lift answers. -/
namespace Go.Proofs.YtbgibiongnhjoaaGreat
open Go.ChangeShapes Go.WideShapes Go.ChangeAt Go.RowKit

theorem fit_some {T T' : Tt} (h : fitT T = some T') : T' = T := by
  unfold fitT sizedT at h
  split at h
  · cases h
  · split at h
    · exact (Option.some.inj h).symm
    · cases h
/-- A term's tree. -/
def TreeFor (ts : List Td) (T : Tt) : Prop := termB ts = true → T.flat 0 = ts ∧ T.all nodeP
theorem tree_for (ts : List Td) : ∃ T, TreeFor ts T := by
  by_cases h : termB ts = true
  · obtain ⟨T, h1, h2, _⟩ := tree_of h
    exact ⟨T, fun _ => ⟨h1, h2⟩⟩
  · exact ⟨varT 0, fun h2 => absurd h2 h⟩
end Go.Proofs.YtbgibiongnhjoaaGreat

/- What the specification's l3Answer and Lift answer. -/
namespace Go.Proofs.YtbgibiongnhjoaaGreat
open Go.ChangeShapes Go.WideShapes Go.ChangeAt Go.RowKit

/-- A term that the specification answers, with its code. -/
def SOut (B : Nat) (w' : World) (e : Ending) (r : List Td × Int) : Prop := ∃ v, e = .returned (.tuple #[.agg #[v], .int .i64 r.2]) ∧ FrT B w' v r.1
set_option maxRecDepth 20000 in
set_option maxHeartbeats 4000000 in
theorem l3Answer_any (Qs : Nat → Prop) (T : Tt) (p : Nat) (w : World) (hS : SpG Qs w T p) (hL : T.all leafP) (hP : T.all levP) :
    Calls Tryz.prog 60 #[.pointer (some ⟨p, 0, none⟩)] w fun e w' => SOut w.heap.size w' e (ansT (fitT T)) ∧ Below w.heap.size w w' := by
  obtain ⟨A, hA⟩ : ∃ A, A = ansT (fitT T) := ⟨_, rfl⟩
  rw [← hA]
  have HAA := hide hA
  obtain ⟨W, hW⟩ : ∃ W, W = w.alloc (.cells #[.slice none 0 0] 28) := ⟨_, rfl⟩
  have hbW : Below w.heap.size w W := by rw [hW]; exact bel_alloc (Below.refl _ _) _
  have hr : W.heap[w.heap.size]? = some (.cells #[.slice none 0 0] 28 (0, 0)) := by rw [hW]; exact heap_alloc_new w _
  have c0 : W.cell? ⟨w.heap.size, 0, none⟩ = some (.slice none 0 0) := by rw [Lib.cell_of_heap hr]; rfl
  have f0 : W.frozen? ⟨w.heap.size, 0, none⟩ = false := Lib.frozen_of_heap hr 0
  have l0 := lt_cell c0
  have hSW := hS.keep hbW
  obtain ⟨z1, z2⟩ := zG_sz T hL
  have hz := (spg_sz hSW).cells.1
  have HBW := hide hbW
  by_cases hb : T.big
  · have HE : Hid (A = ([], 3)) := by show _ = _; rw [HAA.out, fit_big hb]; rfl
    rw [z1 hb] at hz
    have HG := hide (l3Great_any p 20001 W hz)
    clear hb hS hSW hL hP hbW hr z1 z2 hA
    go_enter Tryz.func60, Tryz.ntmps60
    go_upto_region 1 with fail
    rw [← hW]
    clear hW
    go_wp2_with fail
    refine HG.out.mono ?_
    rintro e w1 ⟨rfl, hw⟩
    have hw := hw.symm
    subst hw
    go_wp2_with fail
    refine bodyPost_ret (v := .tuple #[.agg #[.slice none 0 0], .int .i64 3]) (by simp [results, Tryz.results60, go_sem, c0]) rfl ⟨⟨_, by rw [HE.out], by rw [HE.out]; exact frt_nil _ _⟩, ?_⟩
    exact HBW.out.setCell (p := ⟨_, _, _⟩) (by show _ ≤ w.heap.size; omega) _
  · have HE : Hid (A = (T.flat 0, 0)) := by show _ = _; rw [HAA.out, fit_ok hb]; rfl
    have hc : T.cnt ≤ 20000 := by have : ¬ 20000 < T.cnt := fun e => hb (.inr e); omega
    rw [z2 hb] at hz
    have HG := hide (l3Great_any p T.cnt W hz)
    have hd : decide (20000 < (T.cnt : Int)) = false := by simp; omega
    rw [hd] at HG
    have HT := hide (l3Term_any Qs T p W hSW hP hc)
    clear hb hS hSW hL hP hbW z1 z2 hA hd hc
    go_enter Tryz.func60, Tryz.ntmps60
    go_upto_region 1 with fail
    rw [← hW]
    clear hW
    go_wp2_with fail
    refine HG.out.mono ?_
    rintro e w1 ⟨rfl, hw⟩
    have hw := hw.symm
    subst hw
    go_wp2_with fail
    refine HT.out.mono ?_
    rintro e w2 ⟨v, rfl, hv, hb2⟩
    obtain ⟨va, vc, rfl⟩ := hv.form
    have c2 := keep_cell hb2 c0
    have hr2 : w2.heap[w.heap.size]? = some (.cells #[.slice none 0 0] 28 (0, 0)) := by rw [hb2.block _ l0]; exact hr
    have f2 : w2.frozen? ⟨w.heap.size, 0, none⟩ = false := Lib.frozen_of_heap hr2 0
    have l2 := lt_cell c2
    have HB2 := hide (bel_trans HBW.out hb2)
    have HV := hide hv
    clear hv hb2 hr2
    go_wp2_with fail
    refine bodyPost_ret (v := .tuple #[.agg #[.slice va (T.flat 0).length vc], .int .i64 0]) (by simp [results, Tryz.results60, go_sem, c2]) rfl ⟨⟨_, by rw [HE.out], ?_⟩, ?_⟩
    · rw [HE.out]
      exact HV.out.low (by omega) (p := ⟨_, _, _⟩) (by show w.heap.size < _; omega) _
    · exact HB2.out.setCell (p := ⟨_, _, _⟩) (by show _ ≤ w.heap.size; omega) _
theorem node_leaf (h : Hd) (c : Nat) (hp : nodeP h c) : leafP h c := var_leaf h c (node_var h c hp)
/-- The root that l3Tree answers. -/
theorem tree_root {ts : List Td} {T : Tt} {pt : Nat → Nat} {Q : Nat → Prop} {w' : World} (ht : termB ts = true) (hk : KidsIn ts ts.length) (F : Forest Q w' pt ts ts.length) (hT : TreeFor ts T) : SpG (fun b => b < w'.heap.size) w' T (pt (ts.length - 1)) ∧ T.cnt ≤ 20000 := by
  obtain ⟨hfl, hP⟩ := hT ht
  have hc : T.cnt ≤ 20000 := by rw [← T.flat_len 0, hfl]; exact len_of ht
  exact ⟨((forest_root hk F hfl).toG (all_mono node_var hP) hc).weak (fun b hb _ => hb), hc⟩
end Go.Proofs.YtbgibiongnhjoaaGreat
