/- What the specification's l3Term and l3Answer answer. -/
import Derived.Test.YtjkkojefpecbfaaGreatSpD
import Derived.Test.YtjkkojefpecbfaaGreatTeF
import Derived.Test.YtjkkojefpecbfaaGreatDrawW
import Derived.Test.YtjkkojefpecbfaaGreatFits
import Derived.Test.YtjkkojefpecbfaaGreatAnyC
namespace Go.Proofs.YtjkkojefpecbfaaGreat
open Go.ChangeShapes Go.WideShapes Go.ChangeAt Go.RowKit

theorem nodes_fr {Q : Nat → Prop} {base : Nat} {w w' : World} {v : Value} {ts : List Td} (h : TmQ Q base w v ts) (hg : ∀ g, v.ownBlock = some g → w'.heap[g]? = w.heap[g]?) (hh : ∀ b : Nat, Q b → b < w.heap.size → w'.heap[b]? = w.heap[b]?) : TNodesAt w' v ts := by
  obtain ⟨xs, h1, h4⟩ := h
  have h1' := row_same (w' := w') h1 hg
  rcases h1'.2 with ⟨h3, h0⟩ | ⟨g, cap, cur, h3, _⟩
  · exact ⟨none, 0, by rw [h3, h0], by omega, by unfold maxLen; omega, fun h => by omega⟩
  · subst h3
    obtain ⟨hc1, hc2⟩ := ownsRow_cap h1'
    refine ⟨_, cap, rfl, hc1, hc2, fun _ => ⟨g, 0, rfl, fun i hi => ?_⟩⟩
    obtain ⟨a, b, c, d, lv, kv, e, f, hv⟩ := h4 i hi
    obtain ⟨v1, v2⟩ := hv w' hh
    rw [Nat.zero_add]
    exact ⟨by rw [h1'.cellAt _ (by omega)]; exact a, by rw [h1'.cellAt _ (by omega)]; exact b, by rw [h1'.cellAt _ (by omega)]; exact c, by rw [h1'.cellAt _ (by omega)]; exact d, lv, by rw [h1'.cellAt _ (by omega)]; exact e, v1, kv, by rw [h1'.cellAt _ (by omega)]; exact f, v2⟩
/-- A term to be read in each world that keeps the blocks from B on. -/
def FrT (B : Nat) (w : World) (v : Value) (ts : List Td) : Prop := ∀ w' : World, (∀ b : Nat, B ≤ b → b < w.heap.size → w'.heap[b]? = w.heap[b]?) → TNodesAt w' v ts
theorem FrT.at {B : Nat} {w : World} {v : Value} {ts : List Td} (h : FrT B w v ts) : TNodesAt w v ts := h w (fun _ _ _ => rfl)
theorem FrT.to {B B' : Nat} {w w2 : World} {v : Value} {ts : List Td} (h : FrT B w v ts) (hB : B' ≤ B) (hs : w.heap.size ≤ w2.heap.size) (hh : ∀ b : Nat, B ≤ b → b < w.heap.size → w2.heap[b]? = w.heap[b]?) : FrT B' w2 v ts := fun w' hw' => h w' (fun b q1 q2 => by rw [hw' b (by omega) (by omega), hh b q1 q2])
theorem FrT.keep {B : Nat} {w w2 : World} {v : Value} {ts : List Td} (h : FrT B w v ts) (hb : Below w.heap.size w w2) : FrT B w2 v ts := h.to (Nat.le_refl _) hb.size (fun b _ q2 => hb.block b q2)
theorem FrT.low {B B' : Nat} {w : World} {v : Value} {ts : List Td} (h : FrT B w v ts) (hB : B' ≤ B) {p : Addr} (hp : p.block < B) (u : Value) : FrT B' (w.setCell p u) v ts := h.to hB (by rw [size_set]; exact Nat.le_refl _) (fun b q1 _ => Below.heap_setCell w p u b (by omega))
theorem frt_nil (B : Nat) (w : World) : FrT B w (.slice none 0 0) [] := fun _ _ => ⟨none, 0, rfl, Nat.le_refl _, by unfold maxLen; omega, fun h => by simp at h⟩
theorem FrT.form {B : Nat} {w : World} {v : Value} {ts : List Td} (h : FrT B w v ts) : ∃ a cap, v = .slice a ts.length cap := by obtain ⟨a, cap, h1, _⟩ := h.at; exact ⟨a, cap, h1⟩
set_option maxRecDepth 20000 in
set_option maxHeartbeats 4000000 in
theorem l3Term_any (Qs : Nat → Prop) (T : Tt) (p : Nat) (w : World) (hS : SpG Qs w T p) (hP : T.all levP) (hc : T.cnt ≤ 20000) :
    Calls Tryz.prog 50 #[.pointer (some ⟨p, 0, none⟩)] w fun e w' => ∃ v, e = .returned (.agg #[v]) ∧ FrT w.heap.size w' v (T.flat 0) ∧ Below w.heap.size w w' := by
  obtain ⟨W1, hW1⟩ : ∃ W1, W1 = w.alloc (.cells #[.slice none 0 0] 28) := ⟨_, rfl⟩
  obtain ⟨W2, hW2⟩ : ∃ W2, W2 = W1.alloc (.cells #[] 67) := ⟨_, rfl⟩
  have hb1 : Below w.heap.size w W1 := by rw [hW1]; exact bel_alloc (Below.refl _ _) _
  have hb2 : Below W1.heap.size W1 W2 := by rw [hW2]; exact bel_alloc (Below.refl _ _) _
  have hr1 : W1.heap[w.heap.size]? = some (.cells #[.slice none 0 0] 28 (0, 0)) := by rw [hW1]; exact heap_alloc_new w _
  have l1 : w.heap.size < W1.heap.size := (Array.getElem?_eq_some_iff.1 hr1).1
  have HR2 : Hid (W2.heap[w.heap.size]? = some (.cells #[.slice none 0 0] 28 (0, 0))) := by show _ = _; rw [hb2.block _ l1]; exact hr1
  have HB2 := hide (bel_trans hb1 hb2)
  have ho : W2.ownsRow W1.heap.size 67 6 (.slice (some ⟨W1.heap.size, 0, none⟩) 0 0) 0 [] := by
    rw [hW2]
    exact ⟨rfl, .inr ⟨W1.heap.size, 0, #[], rfl, Nat.le_refl _, heap_alloc_new W1 _, Nat.le_refl _, by unfold maxLen; omega, rfl, rfl⟩⟩
  have HC := hide (l3Nodes_all Qs W1 T.cnt T p W2 W1.heap.size 0 [] (fun _ => False) (Nat.le_refl _) (hS.keep hb1) hP hb2 ⟨[], ho, fun i h => by simp at h⟩ (fun b hb => by cases hb) (by simp; omega))
  have hs2 : W1.heap.size < W2.heap.size := by rw [hW2]; simp
  have hs1 : W1.heap.size = w.heap.size + 1 := by rw [hW1]; simp
  have HS1 := hide hs1
  clear hS hP hb1 hb2 hr1 ho hs1
  go_enter Tryz.func50, Tryz.ntmps50
  go_upto_region 1 with fail
  rw [← hW1]
  clear hW1
  go_wp2_with fail
  first | rw [← hW2] | skip
  refine HC.out.mono ?_
  rintro e w3 ⟨g, cap, rfl, htm, hg, hor⟩
  have hne : w.heap.size ≠ W1.heap.size := by have := HS1.out; omega
  have hr3 : w3.heap[w.heap.size]? = some (.cells #[.slice none 0 0] 28 (0, 0)) := by rw [hg.block _ (by omega) (fun e => hne (Option.some.inj e))]; exact HR2.out
  have c3 : w3.cell? ⟨w.heap.size, 0, none⟩ = some (.slice none 0 0) := by rw [Lib.cell_of_heap hr3]; rfl
  have f3 : w3.frozen? ⟨w.heap.size, 0, none⟩ = false := Lib.frozen_of_heap hr3 0
  have l3 := lt_cell c3
  have HB3 : Hid (Below w.heap.size w w3) := HB2.out.grown hg HB2.out.size (fun k hk => by have := Option.some.inj hk; have := HS1.out; omega)
  have hg1 : W1.heap.size ≤ g := by rcases hor with h | h <;> omega
  have HTM : Hid (FrT (w.heap.size + 1) w3 (.slice (some ⟨g, 0, none⟩) T.cnt cap) (T.flat 0)) := by
    show FrT _ _ _ _
    intro w' hw
    have hS1 := HS1.out
    obtain ⟨xs, q1, q2⟩ := htm
    have hgl := (World.ownsRow.lt q1 g rfl).2
    have h2 := nodes_fr (w' := w') ⟨xs, q1, q2⟩ (fun q hq => hw q (by simp [Value.ownBlock] at hq; omega) (by simp [Value.ownBlock] at hq; omega)) (fun b hb hl => hw b (by
      rcases hb with h | h
      · exact absurd h.1 id
      · omega) hl)
    simpa using h2
  clear htm hg hor hr3 HC hne
  have hz : ([] : List Td).length + T.cnt = T.cnt := by simp
  rw [hz]
  clear hz
  go_wp2_with fail
  refine bodyPost_ret (v := .agg #[.slice (some ⟨g, 0, none⟩) T.cnt cap]) (by simp [results, Tryz.results50, go_sem, c3]) rfl ⟨_, rfl, HTM.out.low (by omega) (p := ⟨_, _, _⟩) (by show w.heap.size < _; omega) _, ?_⟩
  exact HB3.out.setCell (p := ⟨_, _, _⟩) (by show _ ≤ w.heap.size; omega) _
end Go.Proofs.YtjkkojefpecbfaaGreat

/- What the program's Lift answers. -/
namespace Go.Proofs.YtjkkojefpecbfaaGreat
open Go.ChangeShapes Go.WideShapes Go.ChangeAt Go.RowKit

theorem var_lev (n : Int) : (varT n).all levP := ⟨fun l hl => by simp at hl, by simp⟩
theorem fit_some {T T' : Tt} (h : fitT T = some T') : T' = T := by
  unfold fitT sizedT at h
  split at h
  · cases h
  · split at h
    · exact (Option.some.inj h).symm
    · cases h
/-- A term's tree. -/
def TreeFor (ts : List Td) (T : Tt) : Prop := termB ts = true → T.flat 0 = ts ∧ T.all nodeP
theorem tree_for (ts : List Td) : ∃ T, TreeFor ts T := by
  by_cases h : termB ts = true
  · obtain ⟨T, h1, h2, _⟩ := tree_of h
    exact ⟨T, fun _ => ⟨h1, h2⟩⟩
  · exact ⟨varT 0, fun h2 => absurd h2 h⟩
end Go.Proofs.YtjkkojefpecbfaaGreat

/- What the specification's l3Answer and Lift answer. -/
namespace Go.Proofs.YtjkkojefpecbfaaGreat
open Go.ChangeShapes Go.WideShapes Go.ChangeAt Go.RowKit

/-- A term that the specification answers, with its code. -/
def SOut (B : Nat) (w' : World) (e : Ending) (r : List Td × Int) : Prop := ∃ v, e = .returned (.tuple #[.agg #[v], .int .i64 r.2]) ∧ FrT B w' v r.1
set_option maxRecDepth 20000 in
set_option maxHeartbeats 4000000 in
theorem l3Answer_any (Qs : Nat → Prop) (T : Tt) (p : Nat) (w : World) (hS : SpG Qs w T p) (hL : T.all leafP) (hP : T.all levP) :
    Calls Tryz.prog 60 #[.pointer (some ⟨p, 0, none⟩)] w fun e w' => SOut w.heap.size w' e (ansT (fitT T)) ∧ Below w.heap.size w w' := by
  obtain ⟨A, hA⟩ : ∃ A, A = ansT (fitT T) := ⟨_, rfl⟩
  rw [← hA]
  have HAA := hide hA
  obtain ⟨W, hW⟩ : ∃ W, W = w.alloc (.cells #[.slice none 0 0] 28) := ⟨_, rfl⟩
  have hbW : Below w.heap.size w W := by rw [hW]; exact bel_alloc (Below.refl _ _) _
  have hr : W.heap[w.heap.size]? = some (.cells #[.slice none 0 0] 28 (0, 0)) := by rw [hW]; exact heap_alloc_new w _
  have c0 : W.cell? ⟨w.heap.size, 0, none⟩ = some (.slice none 0 0) := by rw [Lib.cell_of_heap hr]; rfl
  have f0 : W.frozen? ⟨w.heap.size, 0, none⟩ = false := Lib.frozen_of_heap hr 0
  have l0 := lt_cell c0
  have hSW := hS.keep hbW
  obtain ⟨z1, z2⟩ := zG_sz T hL
  have hz := (spg_sz hSW).cells.1
  have HBW := hide hbW
  by_cases hb : T.big
  · have HE : Hid (A = ([], 3)) := by show _ = _; rw [HAA.out, fit_big hb]; rfl
    rw [z1 hb] at hz
    have HG := hide (l3Great_any p 20001 W hz)
    clear hb hS hSW hL hP hbW hr z1 z2 hA
    go_enter Tryz.func60, Tryz.ntmps60
    go_upto_region 1 with fail
    rw [← hW]
    clear hW
    go_wp2_with fail
    refine HG.out.mono ?_
    rintro e w1 ⟨rfl, hw⟩
    have hw := hw.symm
    subst hw
    go_wp2_with fail
    refine bodyPost_ret (v := .tuple #[.agg #[.slice none 0 0], .int .i64 3]) (by simp [results, Tryz.results60, go_sem, c0]) rfl ⟨⟨_, by rw [HE.out], by rw [HE.out]; exact frt_nil _ _⟩, ?_⟩
    exact HBW.out.setCell (p := ⟨_, _, _⟩) (by show _ ≤ w.heap.size; omega) _
  · have HE : Hid (A = (T.flat 0, 0)) := by show _ = _; rw [HAA.out, fit_ok hb]; rfl
    have hc : T.cnt ≤ 20000 := by have : ¬ 20000 < T.cnt := fun e => hb (.inr e); omega
    rw [z2 hb] at hz
    have HG := hide (l3Great_any p T.cnt W hz)
    have hd : decide (20000 < (T.cnt : Int)) = false := by simp; omega
    rw [hd] at HG
    have HT := hide (l3Term_any Qs T p W hSW hP hc)
    clear hb hS hSW hL hP hbW z1 z2 hA hd hc
    go_enter Tryz.func60, Tryz.ntmps60
    go_upto_region 1 with fail
    rw [← hW]
    clear hW
    go_wp2_with fail
    refine HG.out.mono ?_
    rintro e w1 ⟨rfl, hw⟩
    have hw := hw.symm
    subst hw
    go_wp2_with fail
    refine HT.out.mono ?_
    rintro e w2 ⟨v, rfl, hv, hb2⟩
    obtain ⟨va, vc, rfl⟩ := hv.form
    have c2 := keep_cell hb2 c0
    have hr2 : w2.heap[w.heap.size]? = some (.cells #[.slice none 0 0] 28 (0, 0)) := by rw [hb2.block _ l0]; exact hr
    have f2 : w2.frozen? ⟨w.heap.size, 0, none⟩ = false := Lib.frozen_of_heap hr2 0
    have l2 := lt_cell c2
    have HB2 := hide (bel_trans HBW.out hb2)
    have HV := hide hv
    clear hv hb2 hr2
    go_wp2_with fail
    refine bodyPost_ret (v := .tuple #[.agg #[.slice va (T.flat 0).length vc], .int .i64 0]) (by simp [results, Tryz.results60, go_sem, c2]) rfl ⟨⟨_, by rw [HE.out], ?_⟩, ?_⟩
    · rw [HE.out]
      exact HV.out.low (by omega) (p := ⟨_, _, _⟩) (by show w.heap.size < _; omega) _
    · exact HB2.out.setCell (p := ⟨_, _, _⟩) (by show _ ≤ w.heap.size; omega) _
theorem node_leaf (h : Hd) (c : Nat) (hp : nodeP h c) : leafP h c := var_leaf h c (node_var h c hp)
/-- The root that l3Tree answers. -/
theorem tree_root {ts : List Td} {T : Tt} {pt : Nat → Nat} {Q : Nat → Prop} {w' : World} (ht : termB ts = true) (hk : KidsIn ts ts.length) (F : Forest Q w' pt ts ts.length) (hT : TreeFor ts T) : SpG (fun b => b < w'.heap.size) w' T (pt (ts.length - 1)) ∧ T.cnt ≤ 20000 := by
  obtain ⟨hfl, hP⟩ := hT ht
  have hc : T.cnt ≤ 20000 := by rw [← T.flat_len 0, hfl]; exact len_of ht
  exact ⟨((forest_root hk F hfl).toG (all_mono node_var hP) hc).weak (fun b hb _ => hb), hc⟩
end Go.Proofs.YtjkkojefpecbfaaGreat

/- Plain facts about putting levels: the program's tree and the specification's, and the row of nodes of a tree. -/
namespace Go.Proofs.YtjkkojefpecbfaaGreat
open Go.ChangeShapes Go.WideShapes Go.ChangeAt Go.RowKit

theorem empty_of {s : ByteArray} (h : s.toList.isEmpty = true) : s = ⟨#[]⟩ := by
  rw [ByteArray.toList_eq] at h
  have h := List.isEmpty_iff.1 h
  cases s with
  | mk d => cases d with
    | mk l => simp only at h; rw [h]
/-- A tree's nodes are gone through to its root. -/
theorem run_flat : ∀ (t : Tr) (o : Nat), t.ok → ∀ (ns : List Nd) (st : List Int), (∀ i nd, (t.flat o)[i]? = some nd → ns[o + i]? = some nd) → runTo ns o = some st → runTo ns (o + t.cnt) = some (st ++ [((o + t.cnt - 1 : Nat) : Int)])
  | .leaf k s, o, h, ns, st, hn, hr => by
    have h0 := hn 0 ⟨k, s, []⟩ rfl
    have hk : kidsN k = 0 := by rcases h.1 with rfl | rfl <;> rfl
    have hf : fieldsB ⟨k, s, []⟩ = true := h.2
    simp only [Tr.cnt, runTo, hr, Nat.add_zero] at h0 ⊢
    rw [h0]
    simp [stepN, hk, hf]
  | .one k s a, o, h, ns, st, hn, hr => by
    obtain ⟨rfl, hs, ha⟩ := h
    have l1 := Tr.flat_len a o
    have lp := Tr.cnt_pos a
    have ih := run_flat a o ha ns st (fun i nd hi => hn i nd (by simp only [Tr.flat]; exact get_left _ hi)) hr
    have h0 := hn a.cnt ⟨2, s, [((o + a.cnt - 1 : Nat) : Int)]⟩ (by simp only [Tr.flat]; rw [List.getElem?_append_right (by omega), l1]; simp)
    have hf : fieldsB ⟨2, s, [((o + a.cnt - 1 : Nat) : Int)]⟩ = true := hs
    simp only [Tr.cnt]
    rw [show o + (1 + a.cnt) = (o + a.cnt) + 1 from by omega]
    simp only [runTo, ih]
    rw [h0]
    have hk : kidsN 2 = 1 := rfl
    simp [stepN, hk, hf]
    omega
  | .two k s a b, o, h, ns, st, hn, hr => by
    obtain ⟨hk, hs, ha, hb⟩ := h
    have l1 := Tr.flat_len a o
    have l2 := Tr.flat_len b (o + a.cnt)
    have lp := Tr.cnt_pos a
    have lq := Tr.cnt_pos b
    have ih := run_flat a o ha ns st (fun i nd hi => hn i nd (by simp only [Tr.flat]; exact get_left _ (get_left _ hi))) hr
    have ih2 := run_flat b (o + a.cnt) hb ns _ (fun i nd hi => by
      have := hn (a.cnt + i) nd (by simp only [Tr.flat]; have := get_left [(⟨k, s, [((o + a.cnt - 1 : Nat) : Int), ((o + a.cnt + b.cnt - 1 : Nat) : Int)]⟩ : Nd)] (get_right (a.flat o) hi); rwa [l1] at this)
      rwa [← Nat.add_assoc] at this) ih
    have h0 := hn (a.cnt + b.cnt) ⟨k, s, [((o + a.cnt - 1 : Nat) : Int), ((o + a.cnt + b.cnt - 1 : Nat) : Int)]⟩ (by simp only [Tr.flat]; rw [List.getElem?_append_right (by simp; omega)]; simp [l1, l2])
    have hf : fieldsB ⟨k, s, [((o + a.cnt - 1 : Nat) : Int), ((o + a.cnt + b.cnt - 1 : Nat) : Int)]⟩ = true := hs
    simp only [Tr.cnt]
    rw [show o + (1 + a.cnt + b.cnt) = (o + a.cnt + b.cnt) + 1 from by omega]
    simp only [runTo, ih2]
    rw [← Nat.add_assoc] at h0
    rw [h0]
    have hk : kidsN k = 2 := by rcases hk with rfl | rfl <;> rfl
    simp [stepN, hk, hf]
    omega
theorem lvl_flat (t : Tr) (h : t.ok) : lvlB (t.flat 0) = fitsB t := by
  have hr := run_flat t 0 h (t.flat 0) [] (fun i nd hi => by rw [Nat.zero_add]; exact hi) rfl
  have hl := Tr.flat_len t 0
  have hp := Tr.cnt_pos t
  have hn : namesOf (t.flat 0) = t.names [] := (Tr.names_flat t 0 [] h).symm
  unfold lvlB fitsB
  rw [Nat.zero_add] at hr
  rw [hl, hr, hn]
  simp [hp]
end Go.Proofs.YtjkkojefpecbfaaGreat

/- What the specification's small makers of trees and its draws of names answer, beside a reader of drawn bytes. -/
namespace Go.Proofs.YtjkkojefpecbfaaGreat
open Go.ChangeShapes Go.WideShapes Go.ChangeAt Go.RowKit

def names9 : List ByteArray := [⟨#[78, 97, 116]⟩, ⟨#[78, 97, 116, 46, 122, 101, 114, 111]⟩, ⟨#[78, 97, 116, 46, 115, 117, 99, 99]⟩, ⟨#[97, 100, 100]⟩, ⟨#[69, 113]⟩, ⟨#[99]⟩, ⟨#[102, 46, 103]⟩, ⟨#[76, 105, 115, 116]⟩, ⟨#[95, 97, 39]⟩]
def short6 : List ByteArray := [⟨#[120]⟩, ⟨#[121]⟩, ⟨#[65]⟩, ⟨#[110]⟩, ⟨#[95]⟩, ⟨#[104, 39]⟩]
theorem lit_cells (ss : List ByteArray) (w : World) : ∀ j (hj : j < ss.length), (w.alloc (.cells (ss.map Value.string).toArray 9)).cell? ⟨w.heap.size, j, none⟩ = some (.string ss[j]) := by
  intro j hj
  rw [cell_of_row _ _ _ _ _ _ (heap_alloc_new w _)]
  simp [hj]
set_option maxRecDepth 20000 in
set_option maxHeartbeats 2000000 in
theorem l3Name_any {ρ : Pl} (R base : Nat) (w : World) (h : RdAt ρ base w R) : Calls Tryz.prog 130 #[.pointer (some ⟨R, 0, none⟩)] w fun e w' => e = .returned (.string (names9.getD (ρ.v % 9) ⟨#[]⟩)) ∧ RdAt ρ.n base w' R ∧ w.grownBy w' (some R) := by
  have hl := h.lt
  have HR := hide h
  clear h
  go_enter Tryz.func130, Tryz.ntmps130
  go_wp2_with (first
    | (go_at_call 174; refine (pick_any R base w.heap.size names9 _ (HR.out.keep (bel_alloc (Below.refl _ _) _)) (by decide) (by decide) (by omega) (lit_cells names9 w)).mono ?_; rintro e w2 ⟨s, rfl, hs, hr2, hg2, hse⟩; have HSE := hide hse; clear hse)
    | fail)
  go_ret
  exact ⟨by rw [HSE.out]; rfl, hr2, ((grown_of (bel_alloc (Below.refl w.heap.size w) _)).but (some R)).trans hg2⟩
set_option maxRecDepth 20000 in
set_option maxHeartbeats 2000000 in
theorem l3Short_any {ρ : Pl} (R base : Nat) (w : World) (h : RdAt ρ base w R) : Calls Tryz.prog 131 #[.pointer (some ⟨R, 0, none⟩)] w fun e w' => e = .returned (.string (short6.getD (ρ.v % 6) ⟨#[]⟩)) ∧ RdAt ρ.n base w' R ∧ w.grownBy w' (some R) := by
  have hl := h.lt
  have HR := hide h
  clear h
  go_enter Tryz.func131, Tryz.ntmps131
  go_wp2_with (first
    | (go_at_call 174; refine (pick_any R base w.heap.size short6 _ (HR.out.keep (bel_alloc (Below.refl _ _) _)) (by decide) (by decide) (by omega) (lit_cells short6 w)).mono ?_; rintro e w2 ⟨s, rfl, hs, hr2, hg2, hse⟩; have HSE := hide hse; clear hse)
    | fail)
  go_ret
  exact ⟨by rw [HSE.out]; rfl, hr2, ((grown_of (bel_alloc (Below.refl w.heap.size w) _)).but (some R)).trans hg2⟩
/-- What is carried where a reader goes on. -/
theorem Carry.rd {ρ : Pl} {base R : Nat} {w w' : World} (h : RdAt ρ base w R) (hg : w.grownBy w' (some R)) : Carry (fun b => b ≠ R) (fun b => b ≠ R) w w' := by
  obtain ⟨a, cap, h1, _⟩ := h
  refine ⟨fun p ys hp => World.ownsRow.kept hp hg (.inr (by simp [Value.ownBlock]; exact rows_ne hp h1 (by decide))), fun b hb hl => ⟨hb, fun o u hu => by rw [hg.cell_far ⟨b, o, none⟩ hl (by simp; exact hb)]; exact hu⟩, fun ps us ht => ⟨ht.1, fun j a1 a2 => ((ht.2 j a1 a2).grown hg (fun k hk => by simp at hk; subst hk; obtain ⟨cs, hcs⟩ := row_tag h1; exact ⟨cs, 176, by decide, hcs⟩)).mono hg.size⟩⟩
/-- A node made of a row of kids that was made ahead of it. -/
theorem mk_rowQ {Q : Nat → Prop} (h : Hd) (ts : List Tt) (ps : List Nat) (w W : World) (hW : W = w.alloc (.cells (ps.map ptrV).toArray 72)) (hq : Q w.heap.size) (hl : ps.length = ts.length) (h3 : ts.length ≤ 3) (hlv : h.lv = []) (hk : h.k ≠ 1) (hs : ∀ j (h1 : j < ps.length) (h2 : j < ts.length), SpG Q w ts[j] ps[j]) (hn : ∀ t ∈ ts, t.all numP) :
    Calls Tryz.prog 92 #[.int .i64 h.k, .int .i64 h.n, .int .i64 h.m, .string h.s, .slice none 0 0, .slice (some ⟨w.heap.size, 0, none⟩) ps.length ps.length] W fun e w' => e = .returned (ptrV W.heap.size) ∧ SpG Q w' (Tt.mk h ts) W.heap.size ∧ Below W.heap.size W w' := by
  have hbW : Below w.heap.size w W := by rw [hW]; exact bel_alloc (Below.refl _ _) _
  have hcell : ∀ j (hj : j < ps.length), W.cell? ⟨w.heap.size, 0 + j, none⟩ = some (ptrV ps[j]) := fun j hj => by
    rw [hW, Nat.zero_add, cell_of_row _ _ _ _ _ _ (heap_alloc_new w _)]
    simp [hj]
  have hrow : PtrRowQ Q W (.slice (some ⟨w.heap.size, 0, none⟩) ps.length ps.length) ps := ⟨_, _, rfl, Nat.le_refl _, by unfold maxLen; omega, fun _ => ⟨w.heap.size, 0, rfl, hq, hcell⟩⟩
  exact make_tree (Q := Q) (R := Q) hl h3 (by rw [hlv]; exact levrow_nil Q W) hrow (fun j h1 h2 => (hs j h1 h2).keep hbW) hn (fun e => absurd e hk) (fun e => absurd e hk) rfl
def bindH (k m : Int) (s : ByteArray) : Hd := ⟨k, 0, m, s, []⟩
def projH (s : ByteArray) (n : Int) : Hd := ⟨8, n, 0, s, []⟩
def letH (s : ByteArray) : Hd := ⟨7, 0, 0, s, []⟩
set_option maxRecDepth 20000 in
set_option maxHeartbeats 2000000 in
theorem l3AppQ_any {Q : Nat → Prop}  (F A : Tt) (pf pa : Nat) (w : World) (hq : Q w.heap.size) (hpf : SpG Q w F pf) (hpa : SpG Q w A pa) (npf : F.all numP) (npa : A.all numP) :
    Calls Tryz.prog 82 #[.pointer (some ⟨pf, 0, none⟩), .pointer (some ⟨pa, 0, none⟩)] w fun e w' => ∃ p, e = .returned (ptrV p) ∧ SpG Q w' (Tt.mk appH [F, A]) p ∧ Below w.heap.size w w' := by
  obtain ⟨W, hW⟩ : ∃ W, W = w.alloc (.cells #[.pointer (some ⟨pf, 0, none⟩), .pointer (some ⟨pa, 0, none⟩)] 72) := ⟨_, rfl⟩
  have hbW : Below w.heap.size w W := by rw [hW]; exact bel_alloc (Below.refl _ _) _
  have HM := hide (mk_rowQ (Q := Q) appH [F, A] [pf, pa] w W hW hq rfl (by simp) rfl (by decide) (fun j h1 h2 => by
    rcases (show j = 0 ∨ j = 1 by simp at h1; omega) with rfl | rfl
    · exact hpf
    · exact hpa) (fun t ht => by
    simp only [List.mem_cons, List.not_mem_nil, or_false] at ht
    rcases ht with rfl | rfl
    · exact npf
    · exact npa))
  have HM : Hid (Calls Tryz.prog 92 #[.int .i64 4, .int .i64 0, .int .i64 0, .string ⟨#[]⟩, .slice none 0 0, .slice (some ⟨w.heap.size, 0, none⟩) 2 2] W fun e w' => e = .returned (ptrV W.heap.size) ∧ SpG Q w' (Tt.mk appH [F, A]) W.heap.size ∧ Below W.heap.size W w') := HM.out
  have HBW := hide hbW
  have HBS := hide hbW.size
  clear hpf hpa npf npa hbW hq
  go_enter Tryz.func82, Tryz.ntmps82
  go_wp2_with fail
  first | rw [← hW] | skip
  clear hW
  generalize hsz : W.heap.size = sz at *
  clear hsz
  refine HM.out.mono ?_
  rintro e w1 ⟨rfl, h1, h2⟩
  have H1 := hide h1
  have H2 := hide (HBW.out.trans (h2.mono HBS.out))
  clear h1 h2
  unfold ptrV
  go_wp2_with fail
  go_ret
  exact ⟨_, rfl, H1.out, H2.out⟩
set_option maxRecDepth 20000 in
set_option maxHeartbeats 2000000 in
theorem l3BindQ_any {Q : Nat → Prop} (k m : Int) (s : ByteArray) (hk : k ≠ 1) (F A : Tt) (pf pa : Nat) (w : World) (hq : Q w.heap.size) (hpf : SpG Q w F pf) (hpa : SpG Q w A pa) (npf : F.all numP) (npa : A.all numP) :
    Calls Tryz.prog 134 #[.int .i64 k, .int .i64 m, .string s, .pointer (some ⟨pf, 0, none⟩), .pointer (some ⟨pa, 0, none⟩)] w fun e w' => ∃ p, e = .returned (ptrV p) ∧ SpG Q w' (Tt.mk (bindH k m s) [F, A]) p ∧ Below w.heap.size w w' := by
  obtain ⟨W, hW⟩ : ∃ W, W = w.alloc (.cells #[.pointer (some ⟨pf, 0, none⟩), .pointer (some ⟨pa, 0, none⟩)] 72) := ⟨_, rfl⟩
  have hbW : Below w.heap.size w W := by rw [hW]; exact bel_alloc (Below.refl _ _) _
  have HM := hide (mk_rowQ (Q := Q) (bindH k m s) [F, A] [pf, pa] w W hW hq rfl (by simp) rfl hk (fun j h1 h2 => by
    rcases (show j = 0 ∨ j = 1 by simp at h1; omega) with rfl | rfl
    · exact hpf
    · exact hpa) (fun t ht => by
    simp only [List.mem_cons, List.not_mem_nil, or_false] at ht
    rcases ht with rfl | rfl
    · exact npf
    · exact npa))
  have HM : Hid (Calls Tryz.prog 92 #[.int .i64 k, .int .i64 0, .int .i64 m, .string s, .slice none 0 0, .slice (some ⟨w.heap.size, 0, none⟩) 2 2] W fun e w' => e = .returned (ptrV W.heap.size) ∧ SpG Q w' (Tt.mk (bindH k m s) [F, A]) W.heap.size ∧ Below W.heap.size W w') := HM.out
  have HBW := hide hbW
  have HBS := hide hbW.size
  clear hpf hpa npf npa hbW hq hk
  go_enter Tryz.func134, Tryz.ntmps134
  go_wp2_with fail
  first | rw [← hW] | skip
  clear hW
  generalize hsz : W.heap.size = sz at *
  clear hsz
  refine HM.out.mono ?_
  rintro e w1 ⟨rfl, h1, h2⟩
  have H1 := hide h1
  have H2 := hide (HBW.out.trans (h2.mono HBS.out))
  clear h1 h2
  unfold ptrV
  go_wp2_with fail
  go_ret
  exact ⟨_, rfl, H1.out, H2.out⟩
set_option maxRecDepth 20000 in
set_option maxHeartbeats 2000000 in
theorem l3ProjQ_any {Q : Nat → Prop} (s : ByteArray) (n : Int) (F : Tt) (pf : Nat) (w : World) (hq : Q w.heap.size) (hpf : SpG Q w F pf) (npf : F.all numP) :
    Calls Tryz.prog 132 #[.string s, .int .i64 n, .pointer (some ⟨pf, 0, none⟩)] w fun e w' => ∃ p, e = .returned (ptrV p) ∧ SpG Q w' (Tt.mk (projH s n) [F]) p ∧ Below w.heap.size w w' := by
  obtain ⟨W, hW⟩ : ∃ W, W = w.alloc (.cells #[.pointer (some ⟨pf, 0, none⟩)] 72) := ⟨_, rfl⟩
  have hbW : Below w.heap.size w W := by rw [hW]; exact bel_alloc (Below.refl _ _) _
  have HM := hide (mk_rowQ (Q := Q) (projH s n) [F] [pf] w W hW hq rfl (by simp) rfl (by show (8 : Int) ≠ 1; decide) (fun j h1 h2 => by
    rcases (show j = 0 by simp at h1; omega) with rfl
    exact hpf) (fun t ht => by
    simp only [List.mem_cons, List.not_mem_nil, or_false] at ht
    rcases ht with rfl
    exact npf))
  have HM : Hid (Calls Tryz.prog 92 #[.int .i64 8, .int .i64 n, .int .i64 0, .string s, .slice none 0 0, .slice (some ⟨w.heap.size, 0, none⟩) 1 1] W fun e w' => e = .returned (ptrV W.heap.size) ∧ SpG Q w' (Tt.mk (projH s n) [F]) W.heap.size ∧ Below W.heap.size W w') := HM.out
  have HBW := hide hbW
  have HBS := hide hbW.size
  clear hpf npf hbW hq
  go_enter Tryz.func132, Tryz.ntmps132
  go_wp2_with fail
  first | rw [← hW] | skip
  clear hW
  generalize hsz : W.heap.size = sz at *
  clear hsz
  refine HM.out.mono ?_
  rintro e w1 ⟨rfl, h1, h2⟩
  have H1 := hide h1
  have H2 := hide (HBW.out.trans (h2.mono HBS.out))
  clear h1 h2
  unfold ptrV
  go_wp2_with fail
  go_ret
  exact ⟨_, rfl, H1.out, H2.out⟩
def holeH (n : Int) : Hd := ⟨9, n, 0, ⟨#[]⟩, []⟩
set_option maxRecDepth 20000 in
set_option maxHeartbeats 2000000 in
theorem l3HoleQ_any (Q : Nat → Prop) (n : Int) (w : World) : Calls Tryz.prog 133 #[.int .i64 n] w fun e w' => ∃ p, e = .returned (ptrV p) ∧ SpG Q w' (.t0 (holeH n)) p ∧ Below w.heap.size w w' := by
  have HM := hide (make_tree (Q := Q) (R := Q) (h := holeH n) (ts := []) (ps := []) (lvv := .slice none 0 0) (kdv := .slice none 0 0) (w := w) rfl (by simp) (levrow_nil Q w) (ptrrow_nil Q w) (fun j h => by simp at h) (fun t ht => by simp at ht) (fun e => by simp [holeH] at e) (fun _ => rfl) rfl)
  have HM : Hid (Calls Tryz.prog 92 #[.int .i64 9, .int .i64 n, .int .i64 0, .string ⟨#[]⟩, .slice none 0 0, .slice none 0 0] w fun e w' => e = .returned (ptrV w.heap.size) ∧ SpG Q w' (.t0 (holeH n)) w.heap.size ∧ Below w.heap.size w w') := HM.out
  go_enter Tryz.func133, Tryz.ntmps133
  go_wp2_with fail
  refine HM.out.mono ?_
  rintro e w1 ⟨rfl, h1, h2⟩
  have H1 := hide h1
  have H2 := hide h2
  clear h1 h2
  unfold ptrV
  go_wp2_with fail
  go_ret
  exact ⟨w.heap.size, rfl, H1.out, H2.out⟩
def constH (s : ByteArray) (ls : List (List Nd)) : Hd := ⟨3, 0, 0, s, ls⟩
set_option maxRecDepth 20000 in
set_option maxHeartbeats 2000000 in
theorem l3ConstQ_any (Q : Nat → Prop) (s : ByteArray) (v : Value) (ls : List (List Nd)) (w : World) (hv : LevRowF Q w v ls) : Calls Tryz.prog 129 #[.string s, v] w fun e w' => ∃ p, e = .returned (ptrV p) ∧ SpG Q w' (.t0 (constH s ls)) p ∧ Below w.heap.size w w' := by
  have HM := hide (make_tree (Q := Q) (R := Q) (h := constH s ls) (ts := []) (ps := []) (lvv := v) (kdv := .slice none 0 0) (w := w) rfl (by simp) hv (ptrrow_nil Q w) (fun j h => by simp at h) (fun t ht => by simp at ht) (fun e => by simp [constH] at e) (fun _ => rfl) rfl)
  have HM : Hid (Calls Tryz.prog 92 #[.int .i64 3, .int .i64 0, .int .i64 0, .string s, v, .slice none 0 0] w fun e w' => e = .returned (ptrV w.heap.size) ∧ SpG Q w' (.t0 (constH s ls)) w.heap.size ∧ Below w.heap.size w w') := HM.out
  obtain ⟨la, lc, lps, rfl⟩ : ∃ la lc lps, v = .slice la lps lc := by obtain ⟨ps, us, e1, ⟨a, cap, rfl, _⟩, _⟩ := hv; exact ⟨_, _, _, rfl⟩
  clear hv
  go_enter Tryz.func129, Tryz.ntmps129
  go_wp2_with fail
  refine HM.out.mono ?_
  rintro e w1 ⟨rfl, h1, h2⟩
  have H1 := hide h1
  have H2 := hide h2
  clear h1 h2
  unfold ptrV
  go_wp2_with fail
  go_ret
  exact ⟨w.heap.size, rfl, H1.out, H2.out⟩
def sortH (l : List Nd) : Hd := ⟨2, 0, 0, ⟨#[]⟩, [l]⟩
set_option maxRecDepth 20000 in
set_option maxHeartbeats 2000000 in
theorem l3SortQ_any {Q : Nat → Prop} (t : Tr) (g : Nat) (w : World) (hq : Q w.heap.size) (ht : TreeAt w.heap.size w g t) (hok : t.ok) (hf : fitsB t = true) : Calls Tryz.prog 127 #[.pointer (some ⟨g, 0, none⟩)] w fun e w' => ∃ p, e = .returned (ptrV p) ∧ SpG Q w' (.t0 (sortH (t.flat 0))) p ∧ Below w.heap.size w w' := by
  obtain ⟨W, hW⟩ : ∃ W, W = w.alloc (.cells #[.pointer (some ⟨g, 0, none⟩)] 164) := ⟨_, rfl⟩
  have hbW : Below w.heap.size w W := by rw [hW]; exact bel_alloc (Below.refl _ _) _
  have hc0 : W.cell? ⟨w.heap.size, 0, none⟩ = some (ptrV g) := by rw [hW]; simp [go_sem, ptrV]
  have hv : LevRowF Q W (.slice (some ⟨w.heap.size, 0, none⟩) 1 1) [t.flat 0] := ⟨[g], [t], rfl, ⟨_, _, rfl, Nat.le_refl _, by unfold maxLen; omega, fun _ => ⟨w.heap.size, 0, rfl, hq, fun j hj => by
    have e : j = 0 := by simp at hj; omega
    subst e
    exact hc0⟩⟩, ⟨⟨rfl, fun j h1 h2 => by
    have e : j = 0 := by simp at h1; omega
    subst e
    exact (ht.keep hbW).mono hbW.size⟩, fun u hu => by simp at hu; rw [hu]; exact hf⟩, rfl, fun q h1 h2 => by
    have e : q = 0 := by simp at h1; omega
    subst e
    exact ⟨rfl, hok, Tr.names_flat t 0 [] hok, (Tr.flat_len t 0).symm⟩⟩
  have HM := hide (make_tree (Q := Q) (R := Q) (h := sortH (t.flat 0)) (ts := []) (ps := []) (lvv := .slice (some ⟨w.heap.size, 0, none⟩) 1 1) (kdv := .slice none 0 0) (w := W) rfl (by simp) hv (ptrrow_nil Q W) (fun j h => by simp at h) (fun t ht => by simp at ht) (fun e => by simp [sortH] at e) (fun _ => rfl) rfl)
  have HM : Hid (Calls Tryz.prog 92 #[.int .i64 2, .int .i64 0, .int .i64 0, .string ⟨#[]⟩, .slice (some ⟨w.heap.size, 0, none⟩) 1 1, .slice none 0 0] W fun e w' => e = .returned (ptrV W.heap.size) ∧ SpG Q w' (.t0 (sortH (t.flat 0))) W.heap.size ∧ Below W.heap.size W w') := HM.out
  have HBW := hide hbW
  have HBS := hide hbW.size
  clear ht hbW hc0 hv hq hok hf
  go_enter Tryz.func127, Tryz.ntmps127
  go_wp2_with fail
  first | rw [← hW] | skip
  clear hW
  generalize hsz : W.heap.size = sz at *
  clear hsz
  refine HM.out.mono ?_
  rintro e w1 ⟨rfl, h1, h2⟩
  have H1 := hide h1
  have H2 := hide (HBW.out.trans (h2.mono HBS.out))
  clear h1 h2
  unfold ptrV
  go_wp2_with fail
  go_ret
  exact ⟨_, rfl, H1.out, H2.out⟩
end Go.Proofs.YtjkkojefpecbfaaGreat
