/- What the specification's l3Term and l3Answer answer. -/
import Derived.Test.YtjkkojefpecbfaaGreatSpD
import Derived.Test.YtjkkojefpecbfaaGreatTeF
import Derived.Test.YtjkkojefpecbfaaGreatFoA
import Derived.Test.YtjkkojefpecbfaaGreatTrJ
import Derived.Test.YtjkkojefpecbfaaGreatSpC
namespace Go.Proofs.YtjkkojefpecbfaaGreat
open Go.ChangeShapes Go.WideShapes Go.ChangeAt Go.RowKit

theorem nodes_fr {Q : Nat → Prop} {base : Nat} {w w' : World} {v : Value} {ts : List Td} (h : TmQ Q base w v ts) (hg : ∀ g, v.ownBlock = some g → w'.heap[g]? = w.heap[g]?) (hh : ∀ b : Nat, Q b → b < w.heap.size → w'.heap[b]? = w.heap[b]?) : TNodesAt w' v ts := by
  obtain ⟨xs, h1, h4⟩ := h
  have h1' := row_same (w' := w') h1 hg
  rcases h1'.2 with ⟨h3, h0⟩ | ⟨g, cap, cur, h3, _⟩
  · exact ⟨none, 0, by rw [h3, h0], by omega, by unfold maxLen; omega, fun h => by omega⟩
  · subst h3
    obtain ⟨hc1, hc2⟩ := ownsRow_cap h1'
    refine ⟨_, cap, rfl, hc1, hc2, fun _ => ⟨g, 0, rfl, fun i hi => ?_⟩⟩
    obtain ⟨a, b, c, d, lv, kv, e, f, hv⟩ := h4 i hi
    obtain ⟨v1, v2⟩ := hv w' hh
    rw [Nat.zero_add]
    exact ⟨by rw [h1'.cellAt _ (by omega)]; exact a, by rw [h1'.cellAt _ (by omega)]; exact b, by rw [h1'.cellAt _ (by omega)]; exact c, by rw [h1'.cellAt _ (by omega)]; exact d, lv, by rw [h1'.cellAt _ (by omega)]; exact e, v1, kv, by rw [h1'.cellAt _ (by omega)]; exact f, v2⟩
/-- A term to be read in each world that keeps the blocks from B on. -/
def FrT (B : Nat) (w : World) (v : Value) (ts : List Td) : Prop := ∀ w' : World, (∀ b : Nat, B ≤ b → b < w.heap.size → w'.heap[b]? = w.heap[b]?) → TNodesAt w' v ts
theorem FrT.at {B : Nat} {w : World} {v : Value} {ts : List Td} (h : FrT B w v ts) : TNodesAt w v ts := h w (fun _ _ _ => rfl)
theorem FrT.to {B B' : Nat} {w w2 : World} {v : Value} {ts : List Td} (h : FrT B w v ts) (hB : B' ≤ B) (hs : w.heap.size ≤ w2.heap.size) (hh : ∀ b : Nat, B ≤ b → b < w.heap.size → w2.heap[b]? = w.heap[b]?) : FrT B' w2 v ts := fun w' hw' => h w' (fun b q1 q2 => by rw [hw' b (by omega) (by omega), hh b q1 q2])
theorem FrT.low {B B' : Nat} {w : World} {v : Value} {ts : List Td} (h : FrT B w v ts) (hB : B' ≤ B) {p : Addr} (hp : p.block < B) (u : Value) : FrT B' (w.setCell p u) v ts := h.to hB (by rw [size_set]; exact Nat.le_refl _) (fun b q1 _ => Below.heap_setCell w p u b (by omega))
theorem frt_nil (B : Nat) (w : World) : FrT B w (.slice none 0 0) [] := fun _ _ => ⟨none, 0, rfl, Nat.le_refl _, by unfold maxLen; omega, fun h => by simp at h⟩
theorem FrT.form {B : Nat} {w : World} {v : Value} {ts : List Td} (h : FrT B w v ts) : ∃ a cap, v = .slice a ts.length cap := by obtain ⟨a, cap, h1, _⟩ := h.at; exact ⟨a, cap, h1⟩
set_option maxRecDepth 20000 in
set_option maxHeartbeats 4000000 in
theorem l3Term_any (Qs : Nat → Prop) (T : Tt) (p : Nat) (w : World) (hS : SpG Qs w T p) (hP : T.all levP) (hc : T.cnt ≤ 20000) :
    Calls Tryz.prog 50 #[.pointer (some ⟨p, 0, none⟩)] w fun e w' => ∃ v, e = .returned (.agg #[v]) ∧ FrT w.heap.size w' v (T.flat 0) ∧ Below w.heap.size w w' := by
  obtain ⟨W1, hW1⟩ : ∃ W1, W1 = w.alloc (.cells #[.slice none 0 0] 28) := ⟨_, rfl⟩
  obtain ⟨W2, hW2⟩ : ∃ W2, W2 = W1.alloc (.cells #[] 67) := ⟨_, rfl⟩
  have hb1 : Below w.heap.size w W1 := by rw [hW1]; exact bel_alloc (Below.refl _ _) _
  have hb2 : Below W1.heap.size W1 W2 := by rw [hW2]; exact bel_alloc (Below.refl _ _) _
  have hr1 : W1.heap[w.heap.size]? = some (.cells #[.slice none 0 0] 28 (0, 0)) := by rw [hW1]; exact heap_alloc_new w _
  have l1 : w.heap.size < W1.heap.size := (Array.getElem?_eq_some_iff.1 hr1).1
  have HR2 : Hid (W2.heap[w.heap.size]? = some (.cells #[.slice none 0 0] 28 (0, 0))) := by show _ = _; rw [hb2.block _ l1]; exact hr1
  have HB2 := hide (bel_trans hb1 hb2)
  have ho : W2.ownsRow W1.heap.size 67 6 (.slice (some ⟨W1.heap.size, 0, none⟩) 0 0) 0 [] := by
    rw [hW2]
    exact ⟨rfl, .inr ⟨W1.heap.size, 0, #[], rfl, Nat.le_refl _, heap_alloc_new W1 _, Nat.le_refl _, by unfold maxLen; omega, rfl, rfl⟩⟩
  have HC := hide (l3Nodes_all Qs W1 T.cnt T p W2 W1.heap.size 0 [] (fun _ => False) (Nat.le_refl _) (hS.keep hb1) hP hb2 ⟨[], ho, fun i h => by simp at h⟩ (fun b hb => by cases hb) (by simp; omega))
  have hs2 : W1.heap.size < W2.heap.size := by rw [hW2]; simp
  have hs1 : W1.heap.size = w.heap.size + 1 := by rw [hW1]; simp
  have HS1 := hide hs1
  clear hS hP hb1 hb2 hr1 ho hs1
  go_enter Tryz.func50, Tryz.ntmps50
  go_upto_region 1 with fail
  rw [← hW1]
  clear hW1
  go_wp2_with fail
  first | rw [← hW2] | skip
  refine HC.out.mono ?_
  rintro e w3 ⟨g, cap, rfl, htm, hg, hor⟩
  have hne : w.heap.size ≠ W1.heap.size := by have := HS1.out; omega
  have hr3 : w3.heap[w.heap.size]? = some (.cells #[.slice none 0 0] 28 (0, 0)) := by rw [hg.block _ (by omega) (fun e => hne (Option.some.inj e))]; exact HR2.out
  have c3 : w3.cell? ⟨w.heap.size, 0, none⟩ = some (.slice none 0 0) := by rw [Lib.cell_of_heap hr3]; rfl
  have f3 : w3.frozen? ⟨w.heap.size, 0, none⟩ = false := Lib.frozen_of_heap hr3 0
  have l3 := lt_cell c3
  have HB3 : Hid (Below w.heap.size w w3) := HB2.out.grown hg HB2.out.size (fun k hk => by have := Option.some.inj hk; have := HS1.out; omega)
  have hg1 : W1.heap.size ≤ g := by rcases hor with h | h <;> omega
  have HTM : Hid (FrT (w.heap.size + 1) w3 (.slice (some ⟨g, 0, none⟩) T.cnt cap) (T.flat 0)) := by
    show FrT _ _ _ _
    intro w' hw
    have hS1 := HS1.out
    obtain ⟨xs, q1, q2⟩ := htm
    have hgl := (World.ownsRow.lt q1 g rfl).2
    have h2 := nodes_fr (w' := w') ⟨xs, q1, q2⟩ (fun q hq => hw q (by simp [Value.ownBlock] at hq; omega) (by simp [Value.ownBlock] at hq; omega)) (fun b hb hl => hw b (by
      rcases hb with h | h
      · exact absurd h.1 id
      · omega) hl)
    simpa using h2
  clear htm hg hor hr3 HC hne
  have hz : ([] : List Td).length + T.cnt = T.cnt := by simp
  rw [hz]
  clear hz
  go_wp2_with fail
  refine bodyPost_ret (v := .agg #[.slice (some ⟨g, 0, none⟩) T.cnt cap]) (by simp [results, Tryz.results50, go_sem, c3]) rfl ⟨_, rfl, HTM.out.low (by omega) (p := ⟨_, _, _⟩) (by show w.heap.size < _; omega) _, ?_⟩
  exact HB3.out.setCell (p := ⟨_, _, _⟩) (by show _ ≤ w.heap.size; omega) _
end Go.Proofs.YtjkkojefpecbfaaGreat

/- What the program's Lift answers. -/
namespace Go.Proofs.YtjkkojefpecbfaaGreat
open Go.ChangeShapes Go.WideShapes Go.ChangeAt Go.RowKit

theorem fit_some {T T' : Tt} (h : fitT T = some T') : T' = T := by
  unfold fitT sizedT at h
  split at h
  · cases h
  · split at h
    · exact (Option.some.inj h).symm
    · cases h
/-- A term's tree. -/
def TreeFor (ts : List Td) (T : Tt) : Prop := termB ts = true → T.flat 0 = ts ∧ T.all nodeP
theorem tree_for (ts : List Td) : ∃ T, TreeFor ts T := by
  by_cases h : termB ts = true
  · obtain ⟨T, h1, h2, _⟩ := tree_of h
    exact ⟨T, fun _ => ⟨h1, h2⟩⟩
  · exact ⟨varT 0, fun h2 => absurd h2 h⟩
end Go.Proofs.YtjkkojefpecbfaaGreat

/- What the specification's l3Answer and Lift answer. -/
namespace Go.Proofs.YtjkkojefpecbfaaGreat
open Go.ChangeShapes Go.WideShapes Go.ChangeAt Go.RowKit

/-- A term that the specification answers, with its code. -/
def SOut (B : Nat) (w' : World) (e : Ending) (r : List Td × Int) : Prop := ∃ v, e = .returned (.tuple #[.agg #[v], .int .i64 r.2]) ∧ FrT B w' v r.1
set_option maxRecDepth 20000 in
set_option maxHeartbeats 4000000 in
theorem l3Answer_any (Qs : Nat → Prop) (T : Tt) (p : Nat) (w : World) (hS : SpG Qs w T p) (hL : T.all leafP) (hP : T.all levP) :
    Calls Tryz.prog 60 #[.pointer (some ⟨p, 0, none⟩)] w fun e w' => SOut w.heap.size w' e (ansT (fitT T)) ∧ Below w.heap.size w w' := by
  obtain ⟨A, hA⟩ : ∃ A, A = ansT (fitT T) := ⟨_, rfl⟩
  rw [← hA]
  have HAA := hide hA
  obtain ⟨W, hW⟩ : ∃ W, W = w.alloc (.cells #[.slice none 0 0] 28) := ⟨_, rfl⟩
  have hbW : Below w.heap.size w W := by rw [hW]; exact bel_alloc (Below.refl _ _) _
  have hr : W.heap[w.heap.size]? = some (.cells #[.slice none 0 0] 28 (0, 0)) := by rw [hW]; exact heap_alloc_new w _
  have c0 : W.cell? ⟨w.heap.size, 0, none⟩ = some (.slice none 0 0) := by rw [Lib.cell_of_heap hr]; rfl
  have f0 : W.frozen? ⟨w.heap.size, 0, none⟩ = false := Lib.frozen_of_heap hr 0
  have l0 := lt_cell c0
  have hSW := hS.keep hbW
  obtain ⟨z1, z2⟩ := zG_sz T hL
  have hz := (spg_sz hSW).cells.1
  have HBW := hide hbW
  by_cases hb : T.big
  · have HE : Hid (A = ([], 3)) := by show _ = _; rw [HAA.out, fit_big hb]; rfl
    rw [z1 hb] at hz
    have HG := hide (l3Great_any p 20001 W hz)
    clear hb hS hSW hL hP hbW hr z1 z2 hA
    go_enter Tryz.func60, Tryz.ntmps60
    go_upto_region 1 with fail
    rw [← hW]
    clear hW
    go_wp2_with fail
    refine HG.out.mono ?_
    rintro e w1 ⟨rfl, hw⟩
    have hw := hw.symm
    subst hw
    go_wp2_with fail
    refine bodyPost_ret (v := .tuple #[.agg #[.slice none 0 0], .int .i64 3]) (by simp [results, Tryz.results60, go_sem, c0]) rfl ⟨⟨_, by rw [HE.out], by rw [HE.out]; exact frt_nil _ _⟩, ?_⟩
    exact HBW.out.setCell (p := ⟨_, _, _⟩) (by show _ ≤ w.heap.size; omega) _
  · have HE : Hid (A = (T.flat 0, 0)) := by show _ = _; rw [HAA.out, fit_ok hb]; rfl
    have hc : T.cnt ≤ 20000 := by have : ¬ 20000 < T.cnt := fun e => hb (.inr e); omega
    rw [z2 hb] at hz
    have HG := hide (l3Great_any p T.cnt W hz)
    have hd : decide (20000 < (T.cnt : Int)) = false := by simp; omega
    rw [hd] at HG
    have HT := hide (l3Term_any Qs T p W hSW hP hc)
    clear hb hS hSW hL hP hbW z1 z2 hA hd hc
    go_enter Tryz.func60, Tryz.ntmps60
    go_upto_region 1 with fail
    rw [← hW]
    clear hW
    go_wp2_with fail
    refine HG.out.mono ?_
    rintro e w1 ⟨rfl, hw⟩
    have hw := hw.symm
    subst hw
    go_wp2_with fail
    refine HT.out.mono ?_
    rintro e w2 ⟨v, rfl, hv, hb2⟩
    obtain ⟨va, vc, rfl⟩ := hv.form
    have c2 := keep_cell hb2 c0
    have hr2 : w2.heap[w.heap.size]? = some (.cells #[.slice none 0 0] 28 (0, 0)) := by rw [hb2.block _ l0]; exact hr
    have f2 : w2.frozen? ⟨w.heap.size, 0, none⟩ = false := Lib.frozen_of_heap hr2 0
    have l2 := lt_cell c2
    have HB2 := hide (bel_trans HBW.out hb2)
    have HV := hide hv
    clear hv hb2 hr2
    go_wp2_with fail
    refine bodyPost_ret (v := .tuple #[.agg #[.slice va (T.flat 0).length vc], .int .i64 0]) (by simp [results, Tryz.results60, go_sem, c2]) rfl ⟨⟨_, by rw [HE.out], ?_⟩, ?_⟩
    · rw [HE.out]
      exact HV.out.low (by omega) (p := ⟨_, _, _⟩) (by show w.heap.size < _; omega) _
    · exact HB2.out.setCell (p := ⟨_, _, _⟩) (by show _ ≤ w.heap.size; omega) _
theorem node_leaf (h : Hd) (c : Nat) (hp : nodeP h c) : leafP h c := var_leaf h c (node_var h c hp)
/-- The root that l3Tree answers. -/
theorem tree_root {ts : List Td} {T : Tt} {pt : Nat → Nat} {Q : Nat → Prop} {w' : World} (ht : termB ts = true) (hk : KidsIn ts ts.length) (F : Forest Q w' pt ts ts.length) (hT : TreeFor ts T) : SpG (fun b => b < w'.heap.size) w' T (pt (ts.length - 1)) ∧ T.cnt ≤ 20000 := by
  obtain ⟨hfl, hP⟩ := hT ht
  have hc : T.cnt ≤ 20000 := by rw [← T.flat_len 0, hfl]; exact len_of ht
  exact ⟨((forest_root hk F hfl).toG (all_mono node_var hP) hc).weak (fun b hb _ => hb), hc⟩
end Go.Proofs.YtjkkojefpecbfaaGreat

/- The room that putting counts stays within bounds. No program is walked here. -/
namespace Go.Proofs.YtjkkojefpecbfaaGreat

/-- What is known of a tree and the room ahead of it. -/
def RoomOk (P : Hd → Nat → Prop) (T : Tt) (r : Int) : Prop := T.all P ∧ T.cnt ≤ 20000 ∧ -1000000000000 + 20000 * (T.cnt : Int) ≤ r ∧ r ≤ 20000
theorem room_le {c d : Nat} {k : Nat} (h : d ≤ k * c) (hk : k ≤ 20000) : (d : Int) ≤ 20000 * (c : Int) := by
  have : k * c ≤ 20000 * c := Nat.mul_le_mul_right c hk
  omega
/-- The room is bound at each kid, where it falls by no more than 20000 for each node. -/
theorem room_kids (P : Hd → Nat → Prop) (know : Tt → Int → Int → Option (Option Tt) × Int) (hr : ∀ (T : Tt) (u r : Int), T.all P → T.cnt ≤ 20000 → (chgS know T u r).2 ≤ r ∧ r - 20000 * (T.cnt : Int) ≤ (chgS know T u r).2) (T : Tt) (u r : Int) (j : Nat) (h : j < T.kids.length) (hp : RoomOk P T r) : RoomOk P T.kids[j] (chgJ know T u r j).2 := by
  obtain ⟨h1, h2, h3, h4⟩ := hp
  cases T with
  | t0 hd => simp [Tt.kids] at h
  | t1 hd x =>
    have e : j = 0 := by simp [Tt.kids] at h; exact h
    subst e
    simp only [Tt.cnt] at h2 h3
    exact ⟨h1.2, by show x.cnt ≤ _; omega, by show _ + 20000 * (x.cnt : Int) ≤ r; omega, h4⟩
  | t2 hd x y =>
    simp only [Tt.cnt] at h2 h3
    have hx := hr x (u + bindN hd.k 0) r h1.2.1 (by omega)
    rcases (show j = 0 ∨ j = 1 by simp [Tt.kids] at h; omega) with rfl | rfl
    · exact ⟨h1.2.1, by show x.cnt ≤ _; omega, by show _ + 20000 * (x.cnt : Int) ≤ r; omega, h4⟩
    · exact ⟨h1.2.2, by show y.cnt ≤ _; omega, by show _ + 20000 * (y.cnt : Int) ≤ (chgS know x (u + bindN hd.k 0) r).2; omega, by show (chgS know x (u + bindN hd.k 0) r).2 ≤ _; omega⟩
  | t3 hd x y z =>
    simp only [Tt.cnt] at h2 h3
    have hx := hr x (u + bindN hd.k 0) r h1.2.1 (by omega)
    have hy := hr y (u + bindN hd.k 1) (chgS know x (u + bindN hd.k 0) r).2 h1.2.2.1 (by omega)
    rcases (show j = 0 ∨ j = 1 ∨ j = 2 by simp [Tt.kids] at h; omega) with rfl | rfl | rfl
    · exact ⟨h1.2.1, by show x.cnt ≤ _; omega, by show _ + 20000 * (x.cnt : Int) ≤ r; omega, h4⟩
    · exact ⟨h1.2.2.1, by show y.cnt ≤ _; omega, by show _ + 20000 * (y.cnt : Int) ≤ (chgS know x (u + bindN hd.k 0) r).2; omega, by show (chgS know x (u + bindN hd.k 0) r).2 ≤ _; omega⟩
    · exact ⟨h1.2.2.2, by show z.cnt ≤ _; omega, by show _ + 20000 * (z.cnt : Int) ≤ (chgS know y (u + bindN hd.k 1) (chgS know x (u + bindN hd.k 0) r).2).2; omega, by show (chgS know y (u + bindN hd.k 1) (chgS know x (u + bindN hd.k 0) r).2).2 ≤ _; omega⟩
theorem dedH_le (hole : Int) (k : Nat) : ∀ (T : Tt) (u : Int), dedH hole k T u ≤ k * T.cnt
  | .t0 h, u => by
    unfold dedH
    split
    · simp
    · split <;> simp [Tt.cnt]
  | .t1 h x, u => by
    have := dedH_le hole k x (u + bindN h.k 0)
    unfold dedH
    split
    · omega
    · simp only [Tt.cnt, Nat.mul_add]; omega
  | .t2 h x y, u => by
    have := dedH_le hole k x (u + bindN h.k 0)
    have := dedH_le hole k y (u + bindN h.k 1)
    unfold dedH
    split
    · omega
    · simp only [Tt.cnt, Nat.mul_add]; omega
  | .t3 h x y z, u => by
    have := dedH_le hole k x (u + bindN h.k 0)
    have := dedH_le hole k y (u + bindN h.k 1)
    have := dedH_le hole k z (u + bindN h.k 2)
    unfold dedH
    split
    · omega
    · simp only [Tt.cnt, Nat.mul_add]; omega
theorem fill_pre (a : Tt) (hole : Int) (ha : a.all varP) (hac : a.cnt ≤ 20000) (T : Tt) (u r s1 : Int) (j : Nat) (h : j < T.kids.length) (hp : RoomOk holeP T r) (hk : knowH a hole T u r = (none, s1)) : RoomOk holeP T.kids[j] (chgJ (knowH a hole) T u s1 j).2 := by
  have e : s1 = r := by
    unfold knowH at hk
    split at hk
    · cases hk
    · split at hk
      · cases hk
      · exact (Prod.mk.inj hk).2.symm
  subst e
  refine room_kids holeP (knowH a hole) (fun T u r h1 h2 => ?_) T u s1 j h hp
  have h3 := (fill_ok a hole ha hac T u r h1 h2).room
  have h4 := room_le (dedH_le hole (a.cnt - 1) T u) (by omega)
  omega
end Go.Proofs.YtjkkojefpecbfaaGreat

/- What the specification's l3PutAt answers. -/
namespace Go.Proofs.YtjkkojefpecbfaaGreat
open Go.ChangeShapes Go.WideShapes Go.ChangeAt Go.RowKit

theorem bind_le (k : Int) (i : Nat) : 0 ≤ bindN k i ∧ bindN k i ≤ 1 := by unfold bindN; split <;> omega
end Go.Proofs.YtjkkojefpecbfaaGreat
