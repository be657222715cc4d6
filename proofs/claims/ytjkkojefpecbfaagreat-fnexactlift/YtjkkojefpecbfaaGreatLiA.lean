/- What sizedTerm answers. -/
import Derived.Test.YtjkkojefpecbfaaGreatFoC
import Derived.Test.YtjkkojefpecbfaaGreatFoE
import Derived.Test.YtjkkojefpecbfaaGreatSpD
namespace Go.Proofs.YtjkkojefpecbfaaGreat
open Go.ChangeShapes Go.WideShapes Go.ChangeAt Go.RowKit

/-- A term that is answered, with its code. -/
def TOut (B : Nat) (w' : World) (e : Ending) (r : List Td × Int) : Prop := ∃ v, e = .returned (.tuple #[.agg #[v], .int .i64 r.2]) ∧ TmV B w'.heap.size w' v r.1
/-- What is answered for a tree, or for one that is too great. -/
def ansT : Option Tt → List Td × Int
  | some T => (T.flat 0, 0)
  | none => ([], 3)
theorem eql_node (b g : Nat) (W : World) (hb : PtrOk W (some b)) (hg : PtrOk W (some g)) : (binOp .eql 80 (.pointer (some ⟨b, 0, none⟩)) (.pointer (some ⟨g, 0, none⟩))).run Tryz.prog W = .ok (.bool (decide (b = g))) W := by
  have h := eq_ptr 9999 (some b) (some g) W hb hg
  simp only [pv] at h
  simp [binOp, Op.equal, Op.maxDepth, h]
theorem ptr_ist {base : Nat} {w : World} {Sb mb gb clock : Nat} {L : List (Nk × Nat × Nat)} {Z : Nat → Zs} {H : Nat → Bool} (hs : St base w Sb mb gb clock L Z H) {T : Tt} {b : Nat} (h : IsT L T b) : PtrOk w (some b) := fun x hx => by
  have e := Option.some.inj hx
  subst e
  obtain ⟨ps, c, hl, hm, hk⟩ := ist_open h
  obtain ⟨cs, h1⟩ := (hs.ents _ hm).ptr
  exact ⟨cs, 131, h1⟩
theorem ptr_great {base : Nat} {w : World} {Sb mb gb clock : Nat} {L : List (Nk × Nat × Nat)} {Z : Nat → Zs} {H : Nat → Bool} (hs : St base w Sb mb gb clock L Z H) : PtrOk w (some gb) := fun x hx => by
  have e := Option.some.inj hx
  subst e
  obtain ⟨cs, h1⟩ := nb_heap hs.great
  exact ⟨cs, 131, h1⟩
set_option maxRecDepth 20000 in
set_option maxHeartbeats 8000000 in
theorem sizedTerm_any (base Sb mb gb clock : Nat) (L : List (Nk × Nat × Nat)) (Z : Nat → Zs) (H : Nat → Bool) (w : World) (hs : St base w Sb mb gb clock L Z H) (hbase : base ≤ w.heap.size) (r : Option Tt) (b : Nat) (hr : Res gb L r b) (hP : ∀ T, r = some T → T.all levP) :
    Calls Tryz.prog 62 #[.pointer (some ⟨Sb, 0, none⟩), .pointer (some ⟨b, 0, none⟩)] w fun e w' => TOut w.heap.size w' e (ansT r) ∧ Below w.heap.size w w' := by
  have s1 := hs.cell.2
  have hsl := lt_cell s1
  obtain ⟨W, hW⟩ : ∃ W, W = w.alloc (.cells #[.slice none 0 0] 28) := ⟨_, rfl⟩
  have hbW : Below w.heap.size w W := by rw [hW]; exact bel_alloc (Below.refl _ _) _
  have hsW := hs.keep hbW hbase
  have c0 : W.cell? ⟨w.heap.size, 0, none⟩ = some (.slice none 0 0) := by rw [hW]; simp [go_sem]
  have f0 : W.frozen? ⟨w.heap.size, 0, none⟩ = false := by rw [hW]; simp [go_sem]
  have l0 := lt_cell c0
  have s1 := hsW.cell.2
  have hsl := lt_cell s1
  have HBW := hide hbW
  cases r with
  | none =>
    have e : b = gb := hr
    subst e
    have HE : Hid (ansT none = ([], 3)) := rfl
    rw [HE.out]
    have heq := eql_node b b W (ptr_great hsW) (ptr_great hsW)
    have hd : decide (b = b) = true := by simp
    rw [hd] at heq
    clear hs hP hr hsW hbW hd
    go_enter Tryz.func62, Tryz.ntmps62
    go_upto_region 1 with fail
    rw [← hW]
    clear hW
    go_wp2_with fail
    refine bodyPost_ret (v := .tuple #[.agg #[.slice none 0 0], .int .i64 3]) (by simp [results, Tryz.results62, go_sem, c0]) rfl ⟨⟨_, rfl, tmV_nil _ _ _⟩, ?_⟩
    exact HBW.out.setCell (p := ⟨_, _, _⟩) (by show _ ≤ w.heap.size; omega) _
  | some T =>
    have hT : IsT L T b := hr
    have hne := (ist_lt hs hT).2.1
    have HE : Hid (ansT (some T) = (T.flat 0, 0)) := rfl
    rw [HE.out]
    have heq := eql_node b gb W (ptr_ist hsW hT) (ptr_great hsW)
    have hd : decide (b = gb) = false := by simp [hne]
    rw [hd] at heq
    have HT := hide (termOf_any base Sb mb gb clock L Z H W hsW (Nat.le_trans hbase hbW.size) T b hT (hP T rfl))
    have HR : Hid (W.heap[w.heap.size]? = some (.cells #[.slice none 0 0] 28 (0, 0))) := by show _ = _; rw [hW]; exact heap_alloc_new w _
    clear hs hP hr hT hsW hbW hd hne
    go_enter Tryz.func62, Tryz.ntmps62
    go_upto_region 1 with fail
    rw [← hW]
    clear hW
    go_wp2_with fail
    refine HT.out.mono ?_
    rintro e w2 ⟨g, cap, rfl, hv, hb2⟩
    have c2 := keep_cell hb2 c0
    have f2 : w2.frozen? ⟨w.heap.size, 0, none⟩ = false := by
      obtain ⟨hc, hf⟩ := bcell hb2
      rw [hf _ _ l0]; exact f0
    have l2 := lt_cell c2
    have HB2 := hide (bel_trans HBW.out hb2)
    have HR2 : Hid (w2.heap[w.heap.size]? = some (.cells #[.slice none 0 0] 28 (0, 0))) := by show _ = _; rw [hb2.block _ l0]; exact HR.out
    have HV := hide (hv.mono HBW.out.size (Nat.le_refl _))
    clear hv hb2
    go_wp2_with fail
    refine bodyPost_ret (v := .tuple #[.agg #[.slice (some ⟨g, 0, none⟩) T.cnt cap], .int .i64 0]) (by simp [results, Tryz.results62, go_sem, c2]) rfl ⟨⟨_, rfl, ?_⟩, ?_⟩
    · rw [size_set]
      exact tmV_off' HV.out HR2.out (by decide) (fun k hk => Below.heap_setCell w2 _ _ k hk)
    · exact HB2.out.setCell (p := ⟨_, _, _⟩) (by show _ ≤ w.heap.size; omega) _
end Go.Proofs.YtjkkojefpecbfaaGreat

/- What the specification's l3Term and l3Answer answer. -/
namespace Go.Proofs.YtjkkojefpecbfaaGreat
open Go.ChangeShapes Go.WideShapes Go.ChangeAt Go.RowKit

theorem nodes_fr {Q : Nat → Prop} {base : Nat} {w w' : World} {v : Value} {ts : List Td} (h : TmQ Q base w v ts) (hg : ∀ g, v.ownBlock = some g → w'.heap[g]? = w.heap[g]?) (hh : ∀ b : Nat, Q b → b < w.heap.size → w'.heap[b]? = w.heap[b]?) : TNodesAt w' v ts := by
  obtain ⟨xs, h1, h4⟩ := h
  have h1' := row_same (w' := w') h1 hg
  rcases h1'.2 with ⟨h3, h0⟩ | ⟨g, cap, cur, h3, _⟩
  · exact ⟨none, 0, by rw [h3, h0], by omega, by unfold maxLen; omega, fun h => by omega⟩
  · subst h3
    obtain ⟨hc1, hc2⟩ := ownsRow_cap h1'
    refine ⟨_, cap, rfl, hc1, hc2, fun _ => ⟨g, 0, rfl, fun i hi => ?_⟩⟩
    obtain ⟨a, b, c, d, lv, kv, e, f, hv⟩ := h4 i hi
    obtain ⟨v1, v2⟩ := hv w' hh
    rw [Nat.zero_add]
    exact ⟨by rw [h1'.cellAt _ (by omega)]; exact a, by rw [h1'.cellAt _ (by omega)]; exact b, by rw [h1'.cellAt _ (by omega)]; exact c, by rw [h1'.cellAt _ (by omega)]; exact d, lv, by rw [h1'.cellAt _ (by omega)]; exact e, v1, kv, by rw [h1'.cellAt _ (by omega)]; exact f, v2⟩
/-- A term to be read in each world that keeps the blocks from B on. -/
def FrT (B : Nat) (w : World) (v : Value) (ts : List Td) : Prop := ∀ w' : World, (∀ b : Nat, B ≤ b → b < w.heap.size → w'.heap[b]? = w.heap[b]?) → TNodesAt w' v ts
theorem FrT.at {B : Nat} {w : World} {v : Value} {ts : List Td} (h : FrT B w v ts) : TNodesAt w v ts := h w (fun _ _ _ => rfl)
theorem FrT.to {B B' : Nat} {w w2 : World} {v : Value} {ts : List Td} (h : FrT B w v ts) (hB : B' ≤ B) (hs : w.heap.size ≤ w2.heap.size) (hh : ∀ b : Nat, B ≤ b → b < w.heap.size → w2.heap[b]? = w.heap[b]?) : FrT B' w2 v ts := fun w' hw' => h w' (fun b q1 q2 => by rw [hw' b (by omega) (by omega), hh b q1 q2])
theorem FrT.low {B B' : Nat} {w : World} {v : Value} {ts : List Td} (h : FrT B w v ts) (hB : B' ≤ B) {p : Addr} (hp : p.block < B) (u : Value) : FrT B' (w.setCell p u) v ts := h.to hB (by rw [size_set]; exact Nat.le_refl _) (fun b q1 _ => Below.heap_setCell w p u b (by omega))
theorem frt_nil (B : Nat) (w : World) : FrT B w (.slice none 0 0) [] := fun _ _ => ⟨none, 0, rfl, Nat.le_refl _, by unfold maxLen; omega, fun h => by simp at h⟩
theorem FrT.form {B : Nat} {w : World} {v : Value} {ts : List Td} (h : FrT B w v ts) : ∃ a cap, v = .slice a ts.length cap := by obtain ⟨a, cap, h1, _⟩ := h.at; exact ⟨a, cap, h1⟩
set_option maxRecDepth 20000 in
set_option maxHeartbeats 4000000 in
theorem l3Term_any (Qs : Nat → Prop) (T : Tt) (p : Nat) (w : World) (hS : SpG Qs w T p) (hP : T.all levP) (hc : T.cnt ≤ 20000) :
    Calls Tryz.prog 50 #[.pointer (some ⟨p, 0, none⟩)] w fun e w' => ∃ v, e = .returned (.agg #[v]) ∧ FrT w.heap.size w' v (T.flat 0) ∧ Below w.heap.size w w' := by
  obtain ⟨W1, hW1⟩ : ∃ W1, W1 = w.alloc (.cells #[.slice none 0 0] 28) := ⟨_, rfl⟩
  obtain ⟨W2, hW2⟩ : ∃ W2, W2 = W1.alloc (.cells #[] 67) := ⟨_, rfl⟩
  have hb1 : Below w.heap.size w W1 := by rw [hW1]; exact bel_alloc (Below.refl _ _) _
  have hb2 : Below W1.heap.size W1 W2 := by rw [hW2]; exact bel_alloc (Below.refl _ _) _
  have hr1 : W1.heap[w.heap.size]? = some (.cells #[.slice none 0 0] 28 (0, 0)) := by rw [hW1]; exact heap_alloc_new w _
  have l1 : w.heap.size < W1.heap.size := (Array.getElem?_eq_some_iff.1 hr1).1
  have HR2 : Hid (W2.heap[w.heap.size]? = some (.cells #[.slice none 0 0] 28 (0, 0))) := by show _ = _; rw [hb2.block _ l1]; exact hr1
  have HB2 := hide (bel_trans hb1 hb2)
  have ho : W2.ownsRow W1.heap.size 67 6 (.slice (some ⟨W1.heap.size, 0, none⟩) 0 0) 0 [] := by
    rw [hW2]
    exact ⟨rfl, .inr ⟨W1.heap.size, 0, #[], rfl, Nat.le_refl _, heap_alloc_new W1 _, Nat.le_refl _, by unfold maxLen; omega, rfl, rfl⟩⟩
  have HC := hide (l3Nodes_all Qs W1 T.cnt T p W2 W1.heap.size 0 [] (fun _ => False) (Nat.le_refl _) (hS.keep hb1) hP hb2 ⟨[], ho, fun i h => by simp at h⟩ (fun b hb => by cases hb) (by simp; omega))
  have hs2 : W1.heap.size < W2.heap.size := by rw [hW2]; simp
  have hs1 : W1.heap.size = w.heap.size + 1 := by rw [hW1]; simp
  have HS1 := hide hs1
  clear hS hP hb1 hb2 hr1 ho hs1
  go_enter Tryz.func50, Tryz.ntmps50
  go_upto_region 1 with fail
  rw [← hW1]
  clear hW1
  go_wp2_with fail
  first | rw [← hW2] | skip
  refine HC.out.mono ?_
  rintro e w3 ⟨g, cap, rfl, htm, hg, hor⟩
  have hne : w.heap.size ≠ W1.heap.size := by have := HS1.out; omega
  have hr3 : w3.heap[w.heap.size]? = some (.cells #[.slice none 0 0] 28 (0, 0)) := by rw [hg.block _ (by omega) (fun e => hne (Option.some.inj e))]; exact HR2.out
  have c3 : w3.cell? ⟨w.heap.size, 0, none⟩ = some (.slice none 0 0) := by rw [Lib.cell_of_heap hr3]; rfl
  have f3 : w3.frozen? ⟨w.heap.size, 0, none⟩ = false := Lib.frozen_of_heap hr3 0
  have l3 := lt_cell c3
  have HB3 : Hid (Below w.heap.size w w3) := HB2.out.grown hg HB2.out.size (fun k hk => by have := Option.some.inj hk; have := HS1.out; omega)
  have hg1 : W1.heap.size ≤ g := by rcases hor with h | h <;> omega
  have HTM : Hid (FrT (w.heap.size + 1) w3 (.slice (some ⟨g, 0, none⟩) T.cnt cap) (T.flat 0)) := by
    show FrT _ _ _ _
    intro w' hw
    have hS1 := HS1.out
    obtain ⟨xs, q1, q2⟩ := htm
    have hgl := (World.ownsRow.lt q1 g rfl).2
    have h2 := nodes_fr (w' := w') ⟨xs, q1, q2⟩ (fun q hq => hw q (by simp [Value.ownBlock] at hq; omega) (by simp [Value.ownBlock] at hq; omega)) (fun b hb hl => hw b (by
      rcases hb with h | h
      · exact absurd h.1 id
      · omega) hl)
    simpa using h2
  clear htm hg hor hr3 HC hne
  have hz : ([] : List Td).length + T.cnt = T.cnt := by simp
  rw [hz]
  clear hz
  go_wp2_with fail
  refine bodyPost_ret (v := .agg #[.slice (some ⟨g, 0, none⟩) T.cnt cap]) (by simp [results, Tryz.results50, go_sem, c3]) rfl ⟨_, rfl, HTM.out.low (by omega) (p := ⟨_, _, _⟩) (by show w.heap.size < _; omega) _, ?_⟩
  exact HB3.out.setCell (p := ⟨_, _, _⟩) (by show _ ≤ w.heap.size; omega) _
end Go.Proofs.YtjkkojefpecbfaaGreat

/- What the program's Lift answers. -/
namespace Go.Proofs.YtjkkojefpecbfaaGreat
open Go.ChangeShapes Go.WideShapes Go.ChangeAt Go.RowKit

theorem var_lev (n : Int) : (varT n).all levP := ⟨fun l hl => by simp at hl, by simp⟩
theorem lift_lev (by' : Int) : ∀ (T : Tt) (f : Int), T.all levP → (liftR by' T f).all levP
  | .t0 h, f, hp => by
    unfold liftR
    split
    · exact hp
    · split
      · exact var_lev _
      · exact hp
  | .t1 h a, f, hp => by
    unfold liftR
    split
    · exact hp
    · exact ⟨hp.1, lift_lev by' a _ hp.2⟩
  | .t2 h a b, f, hp => by
    unfold liftR
    split
    · exact hp
    · exact ⟨hp.1, lift_lev by' a _ hp.2.1, lift_lev by' b _ hp.2.2⟩
  | .t3 h a b c, f, hp => by
    unfold liftR
    split
    · exact hp
    · exact ⟨hp.1, lift_lev by' a _ hp.2.1, lift_lev by' b _ hp.2.2.1, lift_lev by' c _ hp.2.2.2⟩
theorem fit_some {T T' : Tt} (h : fitT T = some T') : T' = T := by
  unfold fitT sizedT at h
  split at h
  · cases h
  · split at h
    · exact (Option.some.inj h).symm
    · cases h
theorem chg_fit (f by' : Int) (T : Tt) (hp : T.all varP) (hc : T.cnt ≤ 20000) : (chgS (knowL f by') T 0 ()).1 = fitT (liftR by' T f) := by
  rw [chg_liftR f by' T 0 hp hc, show f + 0 = f by omega]
  unfold fitT sizedT
  rw [liftR_cnt, if_pos hc]
/-- What Lift answers. -/
def liftA (ts : List Td) (T : Tt) (f by' : Int) : List Td × Int := if termB ts = true ∧ 0 ≤ f ∧ f ≤ 20000 ∧ 0 ≤ by' ∧ by' ≤ 20000 then ansT (fitT (liftR by' T f)) else ([], 1)
/-- A term's tree. -/
def TreeFor (ts : List Td) (T : Tt) : Prop := termB ts = true → T.flat 0 = ts ∧ T.all nodeP
theorem tree_for (ts : List Td) : ∃ T, TreeFor ts T := by
  by_cases h : termB ts = true
  · obtain ⟨T, h1, h2, _⟩ := tree_of h
    exact ⟨T, fun _ => ⟨h1, h2⟩⟩
  · exact ⟨varT 0, fun h2 => absurd h2 h⟩
set_option maxRecDepth 20000 in
set_option maxHeartbeats 8000000 in
theorem implLift_any (v : Value) (ts : List Td) (T : Tt) (f by' : Int) (w : World) (hns : TNodesAt w v ts) (hsz : ∀ td ∈ ts, TLens td) (hsm : ∀ td ∈ ts, TSmall td) (hsp : ∀ td ∈ ts, (spell td.lv).length ≤ 1000000000) (hT : TreeFor ts T) :
    Calls Tryz.prog 27 #[.agg #[v], .int .i64 f, .int .i64 by'] w fun e w' => TOut w.heap.size w' e (liftA ts T f by') ∧ Below w.heap.size w w' := by
  obtain ⟨A, hA⟩ : ∃ A, A = liftA ts T f by' := ⟨_, rfl⟩
  rw [← hA]
  have HAA := hide hA
  clear hA
  obtain ⟨W, hW⟩ : ∃ W, W = (w.alloc (.cells #[v] 28)).alloc (.cells #[.slice none 0 0] 28) := ⟨_, rfl⟩
  have hbW : Below w.heap.size w W := by rw [hW]; exact bel_alloc (bel_alloc (Below.refl w.heap.size w) _) _
  have HNW := hide (hns.keep hbW)
  have HSZ := hide hsz
  have HSM := hide hsm
  have HSP := hide hsp
  have HBW := hide hbW
  have HW := hide hW
  have HTT := hide hT
  obtain ⟨a, cap, rfl, _, _, _⟩ := hns
  have c0 : W.cell? ⟨w.heap.size, 0, none⟩ = some (.slice a ts.length cap) := by rw [hW]; simp [go_sem]
  have HR : Hid (W.heap[w.heap.size + 1]? = some (.cells #[.slice none 0 0] 28 (0, 0))) := by show _ = _; rw [hW]; exact heap_alloc_at _ _ (by simp)
  have l0 := lt_cell c0
  clear hsz hsm hsp hbW hW hT
  go_enter Tryz.func27, Tryz.ntmps27
  go_upto_region 1 with fail
  rw [← HW.out]
  go_wp2_with fail
  refine (newStore_any W).mono ?_
  rintro e w2 ⟨⟨Sb, mb, gb, rfl, hs2⟩, hb2⟩
  have c2 := keep_cell hb2 c0
  have l2 := lt_cell c2
  have HS2 := hide hs2
  have HB2 := hide hb2
  clear hs2 hb2 HW
  go_wp2_with fail
  refine (read_any _ ts W w2 Sb mb gb _ _ HNW.out HSZ.out HSM.out HSP.out HB2.out HS2.out).mono ?_
  rintro e w3 ⟨he, hb3⟩
  have hrl : w.heap.size + 1 < W.heap.size := (Array.getElem?_eq_some_iff.1 HR.out).1
  have HR3 : Hid (w3.heap[w.heap.size + 1]? = some (.cells #[.slice none 0 0] 28 (0, 0))) := by show _ = _; rw [hb3.block _ hrl]; exact HR.out
  have HB3 := hide (bel_trans HBW.out hb3)
  have HBS := hide hb3.size
  have hWs := HBW.out.size
  clear c2 l2 HS2 HB2 hb3 HSZ HSM HSP HNW c0 l0
  have c3 : w3.cell? ⟨w.heap.size + 1, 0, none⟩ = some (.slice none 0 0) := by rw [Lib.cell_of_heap HR3.out]; rfl
  have f3 : w3.frozen? ⟨w.heap.size + 1, 0, none⟩ = false := Lib.frozen_of_heap HR3.out 0
  have l3 := lt_cell c3
  have HBAD : Hid (∀ w', w' = w3.setCell ⟨w.heap.size + 1, 0, none⟩ (.slice none 0 0) → TOut w.heap.size w' (.returned (.tuple #[.agg #[.slice none 0 0], .int .i64 1])) ([], 1) ∧ Below w.heap.size w w') := fun w' hw' => by
    subst hw'
    exact ⟨⟨_, rfl, tmV_nil _ _ _⟩, HB3.out.setCell (p := ⟨_, _, _⟩) (by show _ ≤ w.heap.size + 1; omega) _⟩
  rcases he with ⟨ht, rfl⟩ | ⟨ht, pt, clock, L, Z, H, rfl, hs3, hr3⟩
  · have HE : Hid (A = ([], 1)) := by show _ = _; rw [HAA.out]; unfold liftA; rw [if_neg (by simp [ht])]
    clear ht
    go_wp2_with fail
    exact bodyPost_ret (v := .tuple #[.agg #[.slice none 0 0], .int .i64 1]) (by simp [results, Tryz.results27, go_sem, c3]) rfl (by rw [HE.out]; exact HBAD.out _ rfl)
  · by_cases h1 : f < 0
    · have HE : Hid (A = ([], 1)) := by show _ = _; rw [HAA.out]; unfold liftA; rw [if_neg (by omega)]
      have d1 : decide (f < 0) = true := by simp [h1]
      clear h1 hs3 hr3
      go_wp2_with fail
      exact bodyPost_ret (v := .tuple #[.agg #[.slice none 0 0], .int .i64 1]) (by simp [results, Tryz.results27, go_sem, c3]) rfl (by rw [HE.out]; exact HBAD.out _ rfl)
    have d1 : decide (f < 0) = false := by simp; omega
    by_cases h2 : 20000 < f
    · have HE : Hid (A = ([], 1)) := by show _ = _; rw [HAA.out]; unfold liftA; rw [if_neg (by omega)]
      have d2 : decide (20000 < f) = true := by simp [h2]
      clear h1 h2 hs3 hr3
      go_wp2_with fail
      exact bodyPost_ret (v := .tuple #[.agg #[.slice none 0 0], .int .i64 1]) (by simp [results, Tryz.results27, go_sem, c3]) rfl (by rw [HE.out]; exact HBAD.out _ rfl)
    have d2 : decide (20000 < f) = false := by simp; omega
    by_cases h3 : by' < 0
    · have HE : Hid (A = ([], 1)) := by show _ = _; rw [HAA.out]; unfold liftA; rw [if_neg (by omega)]
      have d3 : decide (by' < 0) = true := by simp [h3]
      clear h1 h2 h3 hs3 hr3
      go_wp2_with fail
      exact bodyPost_ret (v := .tuple #[.agg #[.slice none 0 0], .int .i64 1]) (by simp [results, Tryz.results27, go_sem, c3]) rfl (by rw [HE.out]; exact HBAD.out _ rfl)
    have d3 : decide (by' < 0) = false := by simp; omega
    by_cases h4 : 20000 < by'
    · have HE : Hid (A = ([], 1)) := by show _ = _; rw [HAA.out]; unfold liftA; rw [if_neg (by omega)]
      have d4 : decide (20000 < by') = true := by simp [h4]
      clear h1 h2 h3 h4 hs3 hr3
      go_wp2_with fail
      exact bodyPost_ret (v := .tuple #[.agg #[.slice none 0 0], .int .i64 1]) (by simp [results, Tryz.results27, go_sem, c3]) rfl (by rw [HE.out]; exact HBAD.out _ rfl)
    have d4 : decide (20000 < by') = false := by simp; omega
    have HE : Hid (A = ansT (fitT (liftR by' T f))) := by show _ = _; rw [HAA.out]; unfold liftA; rw [if_pos ⟨ht, by omega⟩]
    obtain ⟨hfl, hP⟩ := HTT.out ht
    have hIs := rd_root hr3 hfl
    have hcnt := (ist_lt hs3 hIs).1
    have HL := hide (lift_any W.heap.size Sb mb gb clock L Z H T (pt (ts.length - 1)) f by' w3 hs3 HBS.out hIs hP (by omega) (by omega))
    rw [chg_fit f by' T (all_mono node_var hP) hcnt] at HL
    have HLV : Hid (∀ T', fitT (liftR by' T f) = some T' → T'.all levP) := fun T' h => by rw [fit_some h]; exact lift_lev by' T f (all_mono node_lev hP)
    have hml : mb < w3.heap.size := (Array.getElem?_eq_some_iff.1 hs3.mp).1
    have hmlo : W.heap.size ≤ mb := hs3.lows.2
    generalize pt (ts.length - 1) = rb at *
    generalize fitT (liftR by' T f) = rr at *
    clear h1 h2 h3 h4 hs3 hr3 hfl hP hIs ht HAA
    go_wp2_with fail
    refine HL.out.mono ?_
    rintro e w4 ⟨b4, clock4, L4, Z4, H4, rfl, hs4, hL4, hr4, hg4⟩
    have HST := hide (sizedTerm_any W.heap.size Sb mb gb clock4 L4 Z4 H4 w4 hs4 (Nat.le_trans HBS.out hg4.size) rr b4 hr4 HLV.out)
    have HR4 : Hid (w4.heap[w.heap.size + 1]? = some (.cells #[.slice none 0 0] 28 (0, 0))) := by show _ = _; rw [hg4.block _ l3 (fun e => by have := Option.some.inj e; omega)]; exact HR3.out
    have HB4 := hide (HB3.out.grown hg4 HB3.out.size (fun k hk => by have := Option.some.inj hk; omega))
    clear hs4 hL4 hr4 hg4 c3 f3 l3 HL HR3
    go_wp2_with fail
    refine HST.out.mono ?_
    rintro e w5 ⟨⟨v5, rfl, hv5⟩, hb5⟩
    obtain ⟨va, vc, rfl⟩ := hv5.form
    have hl4 : w.heap.size + 1 < w4.heap.size := (Array.getElem?_eq_some_iff.1 HR4.out).1
    have HR5 : Hid (w5.heap[w.heap.size + 1]? = some (.cells #[.slice none 0 0] 28 (0, 0))) := by show _ = _; rw [hb5.block _ hl4]; exact HR4.out
    have c5 : w5.cell? ⟨w.heap.size + 1, 0, none⟩ = some (.slice none 0 0) := by rw [Lib.cell_of_heap HR5.out]; rfl
    have f5 : w5.frozen? ⟨w.heap.size + 1, 0, none⟩ = false := Lib.frozen_of_heap HR5.out 0
    have l5 := lt_cell c5
    have HB5 := hide (bel_trans HB4.out hb5)
    have HV5 := hide (hv5.mono HB4.out.size (Nat.le_refl _))
    clear hv5 hb5 HST
    go_wp2_with fail
    refine bodyPost_ret (v := .tuple #[.agg #[.slice va (ansT rr).1.length vc], .int .i64 (ansT rr).2]) (by simp [results, Tryz.results27, go_sem, c5]) rfl ⟨⟨_, by rw [HE.out], ?_⟩, ?_⟩
    · rw [HE.out, size_set]
      exact tmV_off' HV5.out HR5.out (by decide) (fun k hk => Below.heap_setCell w5 _ _ k hk)
    · exact HB5.out.setCell (p := ⟨_, _, _⟩) (by show _ ≤ w.heap.size + 1; omega) _
end Go.Proofs.YtjkkojefpecbfaaGreat
