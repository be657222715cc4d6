/- What sizedTerm answers. -/
import Derived.Test.YtbgibiongnhjoaaGreatTeD
import Derived.Test.YtbgibiongnhjoaaGreatStEx
import Derived.Test.YtbgibiongnhjoaaGreatSpD
import Derived.Test.YtbgibiongnhjoaaGreatPpF
import Derived.Test.YtbgibiongnhjoaaGreatPpT
namespace Go.Proofs.YtbgibiongnhjoaaGreat
open Go.ChangeShapes Go.WideShapes Go.ChangeAt Go.RowKit

/-- A term that is answered, with its code. -/
def TOut (B : Nat) (w' : World) (e : Ending) (r : List Td × Int) : Prop := ∃ v, e = .returned (.tuple #[.agg #[v], .int .i64 r.2]) ∧ TmV B w'.heap.size w' v r.1
/-- What is answered for a tree, or for one that is too great. -/
def ansT : Option Tt → List Td × Int
  | some T => (T.flat 0, 0)
  | none => ([], 3)
theorem eql_node (b g : Nat) (W : World) (hb : PtrOk W (some b)) (hg : PtrOk W (some g)) : (binOp .eql 80 (.pointer (some ⟨b, 0, none⟩)) (.pointer (some ⟨g, 0, none⟩))).run Tryz.prog W = .ok (.bool (decide (b = g))) W := by
  have h := eq_ptr 9999 (some b) (some g) W hb hg
  simp only [pv] at h
  simp [binOp, Op.equal, Op.maxDepth, h]
end Go.Proofs.YtbgibiongnhjoaaGreat

/- What the specification's l3Term and l3Answer answer. -/
namespace Go.Proofs.YtbgibiongnhjoaaGreat
open Go.ChangeShapes Go.WideShapes Go.ChangeAt Go.RowKit

theorem nodes_fr {Q : Nat → Prop} {base : Nat} {w w' : World} {v : Value} {ts : List Td} (h : TmQ Q base w v ts) (hg : ∀ g, v.ownBlock = some g → w'.heap[g]? = w.heap[g]?) (hh : ∀ b : Nat, Q b → b < w.heap.size → w'.heap[b]? = w.heap[b]?) : TNodesAt w' v ts := by
  obtain ⟨xs, h1, h4⟩ := h
  have h1' := row_same (w' := w') h1 hg
  rcases h1'.2 with ⟨h3, h0⟩ | ⟨g, cap, cur, h3, _⟩
  · exact ⟨none, 0, by rw [h3, h0], by omega, by unfold maxLen; omega, fun h => by omega⟩
  · subst h3
    obtain ⟨hc1, hc2⟩ := ownsRow_cap h1'
    refine ⟨_, cap, rfl, hc1, hc2, fun _ => ⟨g, 0, rfl, fun i hi => ?_⟩⟩
    obtain ⟨a, b, c, d, lv, kv, e, f, hv⟩ := h4 i hi
    obtain ⟨v1, v2⟩ := hv w' hh
    rw [Nat.zero_add]
    exact ⟨by rw [h1'.cellAt _ (by omega)]; exact a, by rw [h1'.cellAt _ (by omega)]; exact b, by rw [h1'.cellAt _ (by omega)]; exact c, by rw [h1'.cellAt _ (by omega)]; exact d, lv, by rw [h1'.cellAt _ (by omega)]; exact e, v1, kv, by rw [h1'.cellAt _ (by omega)]; exact f, v2⟩
/-- A term to be read in each world that keeps the blocks from B on. -/
def FrT (B : Nat) (w : World) (v : Value) (ts : List Td) : Prop := ∀ w' : World, (∀ b : Nat, B ≤ b → b < w.heap.size → w'.heap[b]? = w.heap[b]?) → TNodesAt w' v ts
theorem FrT.at {B : Nat} {w : World} {v : Value} {ts : List Td} (h : FrT B w v ts) : TNodesAt w v ts := h w (fun _ _ _ => rfl)
theorem FrT.to {B B' : Nat} {w w2 : World} {v : Value} {ts : List Td} (h : FrT B w v ts) (hB : B' ≤ B) (hs : w.heap.size ≤ w2.heap.size) (hh : ∀ b : Nat, B ≤ b → b < w.heap.size → w2.heap[b]? = w.heap[b]?) : FrT B' w2 v ts := fun w' hw' => h w' (fun b q1 q2 => by rw [hw' b (by omega) (by omega), hh b q1 q2])
theorem FrT.low {B B' : Nat} {w : World} {v : Value} {ts : List Td} (h : FrT B w v ts) (hB : B' ≤ B) {p : Addr} (hp : p.block < B) (u : Value) : FrT B' (w.setCell p u) v ts := h.to hB (by rw [size_set]; exact Nat.le_refl _) (fun b q1 _ => Below.heap_setCell w p u b (by omega))
theorem frt_nil (B : Nat) (w : World) : FrT B w (.slice none 0 0) [] := fun _ _ => ⟨none, 0, rfl, Nat.le_refl _, by unfold maxLen; omega, fun h => by simp at h⟩
theorem FrT.form {B : Nat} {w : World} {v : Value} {ts : List Td} (h : FrT B w v ts) : ∃ a cap, v = .slice a ts.length cap := by obtain ⟨a, cap, h1, _⟩ := h.at; exact ⟨a, cap, h1⟩
set_option maxRecDepth 20000 in
set_option maxHeartbeats 4000000 in
theorem l3Term_any (Qs : Nat → Prop) (T : Tt) (p : Nat) (w : World) (hS : SpG Qs w T p) (hP : T.all levP) (hc : T.cnt ≤ 20000) :
    Calls Tryz.prog 50 #[.pointer (some ⟨p, 0, none⟩)] w fun e w' => ∃ v, e = .returned (.agg #[v]) ∧ FrT w.heap.size w' v (T.flat 0) ∧ Below w.heap.size w w' := by
  obtain ⟨W1, hW1⟩ : ∃ W1, W1 = w.alloc (.cells #[.slice none 0 0] 28) := ⟨_, rfl⟩
  obtain ⟨W2, hW2⟩ : ∃ W2, W2 = W1.alloc (.cells #[] 67) := ⟨_, rfl⟩
  have hb1 : Below w.heap.size w W1 := by rw [hW1]; exact bel_alloc (Below.refl _ _) _
  have hb2 : Below W1.heap.size W1 W2 := by rw [hW2]; exact bel_alloc (Below.refl _ _) _
  have hr1 : W1.heap[w.heap.size]? = some (.cells #[.slice none 0 0] 28 (0, 0)) := by rw [hW1]; exact heap_alloc_new w _
  have l1 : w.heap.size < W1.heap.size := (Array.getElem?_eq_some_iff.1 hr1).1
  have HR2 : Hid (W2.heap[w.heap.size]? = some (.cells #[.slice none 0 0] 28 (0, 0))) := by show _ = _; rw [hb2.block _ l1]; exact hr1
  have HB2 := hide (bel_trans hb1 hb2)
  have ho : W2.ownsRow W1.heap.size 67 6 (.slice (some ⟨W1.heap.size, 0, none⟩) 0 0) 0 [] := by
    rw [hW2]
    exact ⟨rfl, .inr ⟨W1.heap.size, 0, #[], rfl, Nat.le_refl _, heap_alloc_new W1 _, Nat.le_refl _, by unfold maxLen; omega, rfl, rfl⟩⟩
  have HC := hide (l3Nodes_all Qs W1 T.cnt T p W2 W1.heap.size 0 [] (fun _ => False) (Nat.le_refl _) (hS.keep hb1) hP hb2 ⟨[], ho, fun i h => by simp at h⟩ (fun b hb => by cases hb) (by simp; omega))
  have hs2 : W1.heap.size < W2.heap.size := by rw [hW2]; simp
  have hs1 : W1.heap.size = w.heap.size + 1 := by rw [hW1]; simp
  have HS1 := hide hs1
  clear hS hP hb1 hb2 hr1 ho hs1
  go_enter Tryz.func50, Tryz.ntmps50
  go_upto_region 1 with fail
  rw [← hW1]
  clear hW1
  go_wp2_with fail
  first | rw [← hW2] | skip
  refine HC.out.mono ?_
  rintro e w3 ⟨g, cap, rfl, htm, hg, hor⟩
  have hne : w.heap.size ≠ W1.heap.size := by have := HS1.out; omega
  have hr3 : w3.heap[w.heap.size]? = some (.cells #[.slice none 0 0] 28 (0, 0)) := by rw [hg.block _ (by omega) (fun e => hne (Option.some.inj e))]; exact HR2.out
  have c3 : w3.cell? ⟨w.heap.size, 0, none⟩ = some (.slice none 0 0) := by rw [Lib.cell_of_heap hr3]; rfl
  have f3 : w3.frozen? ⟨w.heap.size, 0, none⟩ = false := Lib.frozen_of_heap hr3 0
  have l3 := lt_cell c3
  have HB3 : Hid (Below w.heap.size w w3) := HB2.out.grown hg HB2.out.size (fun k hk => by have := Option.some.inj hk; have := HS1.out; omega)
  have hg1 : W1.heap.size ≤ g := by rcases hor with h | h <;> omega
  have HTM : Hid (FrT (w.heap.size + 1) w3 (.slice (some ⟨g, 0, none⟩) T.cnt cap) (T.flat 0)) := by
    show FrT _ _ _ _
    intro w' hw
    have hS1 := HS1.out
    obtain ⟨xs, q1, q2⟩ := htm
    have hgl := (World.ownsRow.lt q1 g rfl).2
    have h2 := nodes_fr (w' := w') ⟨xs, q1, q2⟩ (fun q hq => hw q (by simp [Value.ownBlock] at hq; omega) (by simp [Value.ownBlock] at hq; omega)) (fun b hb hl => hw b (by
      rcases hb with h | h
      · exact absurd h.1 id
      · omega) hl)
    simpa using h2
  clear htm hg hor hr3 HC hne
  have hz : ([] : List Td).length + T.cnt = T.cnt := by simp
  rw [hz]
  clear hz
  go_wp2_with fail
  refine bodyPost_ret (v := .agg #[.slice (some ⟨g, 0, none⟩) T.cnt cap]) (by simp [results, Tryz.results50, go_sem, c3]) rfl ⟨_, rfl, HTM.out.low (by omega) (p := ⟨_, _, _⟩) (by show w.heap.size < _; omega) _, ?_⟩
  exact HB3.out.setCell (p := ⟨_, _, _⟩) (by show _ ≤ w.heap.size; omega) _
end Go.Proofs.YtbgibiongnhjoaaGreat

/- What the program's Lift answers. -/
namespace Go.Proofs.YtbgibiongnhjoaaGreat
open Go.ChangeShapes Go.WideShapes Go.ChangeAt Go.RowKit

/-- A term's tree. -/
def TreeFor (ts : List Td) (T : Tt) : Prop := termB ts = true → T.flat 0 = ts ∧ T.all nodeP
theorem tree_for (ts : List Td) : ∃ T, TreeFor ts T := by
  by_cases h : termB ts = true
  · obtain ⟨T, h1, h2, _⟩ := tree_of h
    exact ⟨T, fun _ => ⟨h1, h2⟩⟩
  · exact ⟨varT 0, fun h2 => absurd h2 h⟩
end Go.Proofs.YtbgibiongnhjoaaGreat

/- What the specification's l3Answer and Lift answer. -/
namespace Go.Proofs.YtbgibiongnhjoaaGreat
open Go.ChangeShapes Go.WideShapes Go.ChangeAt Go.RowKit

/-- A term that the specification answers, with its code. -/
def SOut (B : Nat) (w' : World) (e : Ending) (r : List Td × Int) : Prop := ∃ v, e = .returned (.tuple #[.agg #[v], .int .i64 r.2]) ∧ FrT B w' v r.1
set_option maxRecDepth 20000 in
set_option maxHeartbeats 4000000 in
theorem l3Answer_any (Qs : Nat → Prop) (T : Tt) (p : Nat) (w : World) (hS : SpG Qs w T p) (hL : T.all leafP) (hP : T.all levP) :
    Calls Tryz.prog 60 #[.pointer (some ⟨p, 0, none⟩)] w fun e w' => SOut w.heap.size w' e (ansT (fitT T)) ∧ Below w.heap.size w w' := by
  obtain ⟨A, hA⟩ : ∃ A, A = ansT (fitT T) := ⟨_, rfl⟩
  rw [← hA]
  have HAA := hide hA
  obtain ⟨W, hW⟩ : ∃ W, W = w.alloc (.cells #[.slice none 0 0] 28) := ⟨_, rfl⟩
  have hbW : Below w.heap.size w W := by rw [hW]; exact bel_alloc (Below.refl _ _) _
  have hr : W.heap[w.heap.size]? = some (.cells #[.slice none 0 0] 28 (0, 0)) := by rw [hW]; exact heap_alloc_new w _
  have c0 : W.cell? ⟨w.heap.size, 0, none⟩ = some (.slice none 0 0) := by rw [Lib.cell_of_heap hr]; rfl
  have f0 : W.frozen? ⟨w.heap.size, 0, none⟩ = false := Lib.frozen_of_heap hr 0
  have l0 := lt_cell c0
  have hSW := hS.keep hbW
  obtain ⟨z1, z2⟩ := zG_sz T hL
  have hz := (spg_sz hSW).cells.1
  have HBW := hide hbW
  by_cases hb : T.big
  · have HE : Hid (A = ([], 3)) := by show _ = _; rw [HAA.out, fit_big hb]; rfl
    rw [z1 hb] at hz
    have HG := hide (l3Great_any p 20001 W hz)
    clear hb hS hSW hL hP hbW hr z1 z2 hA
    go_enter Tryz.func60, Tryz.ntmps60
    go_upto_region 1 with fail
    rw [← hW]
    clear hW
    go_wp2_with fail
    refine HG.out.mono ?_
    rintro e w1 ⟨rfl, hw⟩
    have hw := hw.symm
    subst hw
    go_wp2_with fail
    refine bodyPost_ret (v := .tuple #[.agg #[.slice none 0 0], .int .i64 3]) (by simp [results, Tryz.results60, go_sem, c0]) rfl ⟨⟨_, by rw [HE.out], by rw [HE.out]; exact frt_nil _ _⟩, ?_⟩
    exact HBW.out.setCell (p := ⟨_, _, _⟩) (by show _ ≤ w.heap.size; omega) _
  · have HE : Hid (A = (T.flat 0, 0)) := by show _ = _; rw [HAA.out, fit_ok hb]; rfl
    have hc : T.cnt ≤ 20000 := by have : ¬ 20000 < T.cnt := fun e => hb (.inr e); omega
    rw [z2 hb] at hz
    have HG := hide (l3Great_any p T.cnt W hz)
    have hd : decide (20000 < (T.cnt : Int)) = false := by simp; omega
    rw [hd] at HG
    have HT := hide (l3Term_any Qs T p W hSW hP hc)
    clear hb hS hSW hL hP hbW z1 z2 hA hd hc
    go_enter Tryz.func60, Tryz.ntmps60
    go_upto_region 1 with fail
    rw [← hW]
    clear hW
    go_wp2_with fail
    refine HG.out.mono ?_
    rintro e w1 ⟨rfl, hw⟩
    have hw := hw.symm
    subst hw
    go_wp2_with fail
    refine HT.out.mono ?_
    rintro e w2 ⟨v, rfl, hv, hb2⟩
    obtain ⟨va, vc, rfl⟩ := hv.form
    have c2 := keep_cell hb2 c0
    have hr2 : w2.heap[w.heap.size]? = some (.cells #[.slice none 0 0] 28 (0, 0)) := by rw [hb2.block _ l0]; exact hr
    have f2 : w2.frozen? ⟨w.heap.size, 0, none⟩ = false := Lib.frozen_of_heap hr2 0
    have l2 := lt_cell c2
    have HB2 := hide (bel_trans HBW.out hb2)
    have HV := hide hv
    clear hv hb2 hr2
    go_wp2_with fail
    refine bodyPost_ret (v := .tuple #[.agg #[.slice va (T.flat 0).length vc], .int .i64 0]) (by simp [results, Tryz.results60, go_sem, c2]) rfl ⟨⟨_, by rw [HE.out], ?_⟩, ?_⟩
    · rw [HE.out]
      exact HV.out.low (by omega) (p := ⟨_, _, _⟩) (by show w.heap.size < _; omega) _
    · exact HB2.out.setCell (p := ⟨_, _, _⟩) (by show _ ≤ w.heap.size; omega) _
/-- The root that l3Tree answers. -/
theorem tree_root {ts : List Td} {T : Tt} {pt : Nat → Nat} {Q : Nat → Prop} {w' : World} (ht : termB ts = true) (hk : KidsIn ts ts.length) (F : Forest Q w' pt ts ts.length) (hT : TreeFor ts T) : SpG (fun b => b < w'.heap.size) w' T (pt (ts.length - 1)) ∧ T.cnt ≤ 20000 := by
  obtain ⟨hfl, hP⟩ := hT ht
  have hc : T.cnt ≤ 20000 := by rw [← T.flat_len 0, hfl]; exact len_of ht
  exact ⟨((forest_root hk F hfl).toG (all_mono node_var hP) hc).weak (fun b hb _ => hb), hc⟩
end Go.Proofs.YtbgibiongnhjoaaGreat

/- What the specification's PutParams answers. -/
namespace Go.Proofs.YtbgibiongnhjoaaGreat
open Go.ChangeShapes Go.WideShapes Go.ChangeAt Go.RowKit

theorem par_var {names : List ByteArray} {ts : List Tr} (T : Tt) (hp : T.all nodeP) (hg : parG names ts T = true) : (parR names ts T).all varP :=
  par_all (fun h c hn _ => by
    have hv := node_var h c hn
    by_cases e : h.k = 1
    · have hl : h.lv = [] := by rw [(hv.1 e).2]
      rw [(head_nolv (names := names) (ts := ts) hl).1]
      exact hv
    · exact ⟨fun q => absurd q e, hv.2⟩) T hp hg
theorem par_fit {names : List ByteArray} {ts : List Tr} (T : Tt) (hp : T.all nodeP) (hc : T.cnt ≤ 20000) (hg : parG names ts T = true) : fitT (parR names ts T) = parO names ts T := by
  rw [fit_self (par_var T hp hg) (by rw [parR_cnt]; exact hc)]
  unfold parO
  rw [if_pos hg]
set_option maxRecDepth 20000 in
set_option maxHeartbeats 4000000 in
theorem l3AnswerP_any (Q : Nat → Prop) (names : List ByteArray) (ts : List Tr) (hts : ∀ t ∈ ts, t.ok) (T : Tt) (p : Nat) (z : Zs) (w : World) (hZ : ParZ Q names ts w T p z) (hP : T.all nodeP) (hc : T.cnt ≤ 20000) :
    Calls Tryz.prog 60 #[.pointer (some ⟨p, 0, none⟩)] w fun e w' => SOut w.heap.size w' e (ansT (parO names ts T)) ∧ Below w.heap.size w w' := by
  cases hg : parG names ts T with
  | true =>
    rw [← par_fit T hP hc hg]
    exact l3Answer_any Q (parR names ts T) p w (hZ.2.2.1 hg).1 (all_mono var_leaf (par_var T hP hg)) (par_lev hts T hP hg)
  | false =>
    have HE : Hid (ansT (parO names ts T) = ([], 3)) := by show _ = _; unfold parO; rw [if_neg (by rw [hg]; decide)]; rfl
    obtain ⟨A, hA⟩ : ∃ A, A = ansT (parO names ts T) := ⟨_, rfl⟩
    rw [← hA] at HE ⊢
    clear hA
    obtain ⟨W, hW⟩ : ∃ W, W = w.alloc (.cells #[.slice none 0 0] 28) := ⟨_, rfl⟩
    have hbW : Below w.heap.size w W := by rw [hW]; exact bel_alloc (Below.refl _ _) _
    have hr : W.heap[w.heap.size]? = some (.cells #[.slice none 0 0] 28 (0, 0)) := by rw [hW]; exact heap_alloc_new w _
    have c0 : W.cell? ⟨w.heap.size, 0, none⟩ = some (.slice none 0 0) := by rw [Lib.cell_of_heap hr]; rfl
    have f0 : W.frozen? ⟨w.heap.size, 0, none⟩ = false := Lib.frozen_of_heap hr 0
    have l0 := lt_cell c0
    have hz := (hZ.1.keep hbW).cells.1
    rw [hZ.2.2.2 hg] at hz
    have HBW := hide hbW
    have HG := hide (l3Great_any p 20001 W hz)
    clear hZ hP hc hg hbW hr hz
    go_enter Tryz.func60, Tryz.ntmps60
    go_upto_region 1 with fail
    rw [← hW]
    clear hW
    go_wp2_with fail
    refine HG.out.mono ?_
    rintro e w1 ⟨rfl, hw⟩
    have hw := hw.symm
    subst hw
    go_wp2_with fail
    refine bodyPost_ret (v := .tuple #[.agg #[.slice none 0 0], .int .i64 3]) (by simp [results, Tryz.results60, go_sem, c0]) rfl ⟨⟨_, by rw [HE.out], by rw [HE.out]; exact frt_nil _ _⟩, ?_⟩
    exact HBW.out.setCell (p := ⟨_, _, _⟩) (by show _ ≤ w.heap.size; omega) _
/-- What PutParams answers. -/
noncomputable def parA (ts : List Td) (T : Tt) (names : List ByteArray) (ls : List (List Nd)) : List Td × Int := if termB ts = true ∧ namedB names ls = true then ansT (parO names (ls.map treeOf) T) else ([], 1)
set_option maxRecDepth 20000 in
set_option maxHeartbeats 8000000 in
theorem specPutParams_any (v vn vl : Value) (ts : List Td) (T : Tt) (names : List ByteArray) (ls : List (List Nd)) (w : World) (hns : TNodesAt w v ts) (hsz : ∀ td ∈ ts, TLens td) (hlv : ∀ td ∈ ts, td.lv.length ≤ 1048576) (hn : StrsAt w vn names) (hl : LevsAt w vl ls) (hlz : ∀ l ∈ ls, LvLens l) (hll : ls.length ≤ 1048576) (hT : TreeFor ts T) :
    Calls Tryz.prog 32 #[.agg #[v], vn, vl] w fun e w' => SOut w.heap.size w' e (parA ts T names ls) ∧ Below w.heap.size w w' := by
  obtain ⟨A, hA⟩ : ∃ A, A = parA ts T names ls := ⟨_, rfl⟩
  rw [← hA]
  have HAA := hide hA
  clear hA
  obtain ⟨W, hW⟩ : ∃ W, W = (w.alloc (.cells #[v] 28)).alloc (.cells #[.slice none 0 0] 28) := ⟨_, rfl⟩
  have hbW : Below w.heap.size w W := by rw [hW]; exact bel_alloc (bel_alloc (Below.refl w.heap.size w) _) _
  have HT := hide (l3TreeF_any v ts W (hns.keep hbW) hsz hlv)
  have HL2 := hide (fun (w3 : World) (h : Below W.heap.size W w3) => l1TreesF_any vl ls w3 (hl.keep (bel_trans hbW h)) hlz hll)
  have HSN := hide (fun (w3 : World) (h : Below W.heap.size W w3) => hn.keep (bel_trans hbW h))
  have HBW := hide hbW
  have HTT := hide hT
  obtain ⟨a, cap, rfl, _, _, _⟩ := hns
  obtain ⟨na, nc, rfl, _, _, _⟩ := hn
  obtain ⟨la, lc, rfl, _, _, _⟩ := hl
  have c0 : W.cell? ⟨w.heap.size, 0, none⟩ = some (.slice a ts.length cap) := by rw [hW]; simp [go_sem]
  have HR : Hid (W.heap[w.heap.size + 1]? = some (.cells #[.slice none 0 0] 28 (0, 0))) := by show _ = _; rw [hW]; exact heap_alloc_at _ _ (by simp)
  have l0 := lt_cell c0
  clear hsz hlv hbW hT hlz
  go_enter Tryz.func32, Tryz.ntmps32
  go_upto_region 1 with fail
  rw [← hW]
  clear hW
  go_wp2_with fail
  refine HT.out.mono ?_
  rintro e w3 ⟨he, hb3⟩
  have hrl : w.heap.size + 1 < W.heap.size := (Array.getElem?_eq_some_iff.1 HR.out).1
  have hWs := HBW.out.size
  have HB3 := hide hb3
  have HCA := hide (HL2.out w3 hb3)
  have HBAD : Hid (∀ w' w4 : World, Below W.heap.size W w4 → w' = w4.setCell ⟨w.heap.size + 1, 0, none⟩ (.slice none 0 0) → SOut w.heap.size w' (.returned (.tuple #[.agg #[.slice none 0 0], .int .i64 1])) ([], 1) ∧ Below w.heap.size w w') := fun w' w4 h4 hw' => by
    subst hw'
    exact ⟨⟨_, rfl, frt_nil _ _⟩, (bel_trans HBW.out h4).setCell (p := ⟨_, _, _⟩) (by show _ ≤ w.heap.size + 1; omega) _⟩
  have HRW : Hid (∀ w4 : World, Below W.heap.size W w4 → w4.heap[w.heap.size + 1]? = some (.cells #[.slice none 0 0] 28 (0, 0))) := fun w4 h4 => by rw [h4.block _ hrl]; exact HR.out
  clear hb3 c0 l0 HT HL2
  rcases he with ⟨htb, rfl⟩ | ⟨htb, hkb, ptb, Qb, rfl, hfb, _⟩
  · have HE : Hid (A = ([], 1)) := by show _ = _; rw [HAA.out]; unfold parA; rw [if_neg (by simp [htb])]
    clear htb
    go_wp2_with fail
    refine HCA.out.mono ?_
    rintro e w4 ⟨⟨a4, n4, cap4, rfl, _⟩, hb4⟩
    have HB4 := hide (bel_trans HB3.out hb4)
    have hr4 := HRW.out w4 HB4.out
    have c4 : w4.cell? ⟨w.heap.size + 1, 0, none⟩ = some (.slice none 0 0) := by rw [Lib.cell_of_heap hr4]; rfl
    have f4 : w4.frozen? ⟨w.heap.size + 1, 0, none⟩ = false := Lib.frozen_of_heap hr4 0
    have l4 := lt_cell c4
    have HN := hide (tnone_none w4)
    clear hb4 HCA hr4
    go_wp2_with (go_at_call 48; refine HN.out.mono ?_; rintro e w5 ⟨rfl, hw⟩; have hw := hw.symm; subst hw)
    exact bodyPost_ret (v := .tuple #[.agg #[.slice none 0 0], .int .i64 1]) (by simp [results, Tryz.results32, go_sem, c4]) rfl (by rw [HE.out]; exact HBAD.out _ _ HB4.out rfl)
  · obtain ⟨hspb, hcb⟩ := tree_root htb hkb hfb HTT.out
    have HPB := hide (HTT.out htb).2
    generalize ptb (ts.length - 1) = rb at *
    have HSB := hide hspb
    have HTB := hide htb
    clear hkb hfb hspb htb
    go_wp2_with fail
    refine HCA.out.mono ?_
    rintro e w4 ⟨⟨a4, n4, cap4, rfl, h4⟩, hb4⟩
    have HSB4 := hide (HSB.out.keep hb4)
    have HB4 := hide (bel_trans HB3.out hb4)
    have hr4 := HRW.out w4 HB4.out
    have c4 : w4.cell? ⟨w.heap.size + 1, 0, none⟩ = some (.slice none 0 0) := by rw [Lib.cell_of_heap hr4]; rfl
    have f4 : w4.frozen? ⟨w.heap.size + 1, 0, none⟩ = false := Lib.frozen_of_heap hr4 0
    have l4 := lt_cell c4
    have HN1 := hide (tnone_some ⟨rb, 0, none⟩ w4)
    have h34 := hb4.size
    have HL4 := hide h4
    clear hb4 HCA hr4 HSB h4
    cases hv : ls.all lvlB with
    | false =>
      have HE : Hid (A = ([], 1)) := by show _ = _; rw [HAA.out]; unfold parA namedB; rw [if_neg (by simp [hv])]
      clear hv HL4
      go_wp2_with (first
        | (go_at_call 48; refine HN1.out.mono ?_; rintro e w5 ⟨rfl, hw⟩; have hw := hw.symm; subst hw)
        | fail)
      exact bodyPost_ret (v := .tuple #[.agg #[.slice none 0 0], .int .i64 1]) (by simp [results, Tryz.results32, go_sem, c4]) rfl (by rw [HE.out]; exact HBAD.out _ _ HB4.out rfl)
    | true =>
      by_cases hlen : names.length = ls.length
      case neg =>
        have HE : Hid (A = ([], 1)) := by show _ = _; rw [HAA.out]; unfold parA namedB; rw [if_neg (by simp [hlen])]
        have dn : ((names.length : Int) != (ls.length : Int)) = true := by simp; omega
        clear hv HL4 hlen
        go_wp2_with (first
          | (go_at_call 48; refine HN1.out.mono ?_; rintro e w5 ⟨rfl, hw⟩; have hw := hw.symm; subst hw)
          | fail)
        exact bodyPost_ret (v := .tuple #[.agg #[.slice none 0 0], .int .i64 1]) (by simp [results, Tryz.results32, go_sem, c4]) rfl (by rw [HE.out]; exact HBAD.out _ _ HB4.out rfl)
      case pos =>
        have dn : ((names.length : Int) != (ls.length : Int)) = false := by simp [hlen]
        obtain ⟨hn4, ps, us, hpl, hpr, hlt, hrl4⟩ := HL4.out hv
        subst hn4
        have hus : us = ls.map treeOf := lvrel_tree hrl4 (fun l hl => List.all_eq_true.1 hv l hl)
        rw [hus] at hlt
        have hts := (trees_ok hv).ok
        have hpv : PutV w4 (.slice na names.length nc) (.slice a4 ls.length cap4) names ps (ls.map treeOf) := ⟨HSN.out w4 HB4.out, by
          obtain ⟨x, c, e1, e2, e3, e4⟩ := hpr.row
          exact ⟨x, c, e1, e2, e3, e4⟩, by omega, by simp [hpl], fun j h1 h2 => hlt.1.2 j h1 h2⟩
        have HE : Hid (A = ansT (parO names (ls.map treeOf) T)) := by show _ = _; rw [HAA.out]; unfold parA namedB; rw [if_pos ⟨HTB.out, by simp [hlen, hv]⟩]
        have HL := hide (l3Params_all names (ls.map treeOf) hts ps (.slice na names.length nc) (.slice a4 ls.length cap4) w4.heap.size T.cnt T (Nat.le_refl _) rb w4 (HSB4.out.weak (fun b _ (hb : b < w3.heap.size) => by show b < _; omega)) (Nat.le_refl _) hpv HPB.out)
        have HAN := hide (fun (p' : Nat) (z' : Zs) (w' : World) (Q' : Nat → Prop) (h : ParZ Q' names (ls.map treeOf) w' T p' z') => l3AnswerP_any Q' names (ls.map treeOf) hts T p' z' w' h HPB.out hcb)
        clear hpv hlt hrl4 hus hpr hpl hts HSB4 HPB HAA HL4 hv hlen
        go_wp2_with (first
          | (go_at_call 48; refine HN1.out.mono ?_; rintro e w5 ⟨rfl, hw⟩; have hw := hw.symm; subst hw)
          | fail)
        refine HL.out.mono ?_
        rintro e w5 ⟨p5, z5, rfl, hs5, hb5⟩
        have HAN5 := hide (HAN.out p5 z5 w5 _ hs5)
        have HB5 := hide (bel_trans HB4.out hb5)
        clear hs5 hb5 c4 f4 l4 HL HAN
        unfold ptrV
        go_wp2_with fail
        refine HAN5.out.mono ?_
        rintro e w6 ⟨⟨v6, rfl, hv6⟩, hb6⟩
        obtain ⟨va, vc, rfl⟩ := hv6.form
        have HB6 := hide (bel_trans HB5.out hb6)
        have hr6 := HRW.out w6 HB6.out
        have c6 : w6.cell? ⟨w.heap.size + 1, 0, none⟩ = some (.slice none 0 0) := by rw [Lib.cell_of_heap hr6]; rfl
        have f6 : w6.frozen? ⟨w.heap.size + 1, 0, none⟩ = false := Lib.frozen_of_heap hr6 0
        have l6 := lt_cell c6
        have HV6 := hide hv6
        have hw5 : W.heap.size ≤ w5.heap.size := HB5.out.size
        generalize ansT (parO names (ls.map treeOf) T) = rr at *
        clear hv6 hb6 HAN5 hr6
        go_wp2_with fail
        refine bodyPost_ret (v := .tuple #[.agg #[.slice va rr.1.length vc], .int .i64 rr.2]) (by simp [results, Tryz.results32, go_sem, c6]) rfl ⟨⟨_, by rw [HE.out], ?_⟩, ?_⟩
        · rw [HE.out]
          exact HV6.out.low (by omega) (p := ⟨_, _, _⟩) (by show w.heap.size + 1 < _; omega) _
        · exact (bel_trans HBW.out HB6.out).setCell (p := ⟨_, _, _⟩) (by show _ ≤ w.heap.size + 1; omega) _
end Go.Proofs.YtbgibiongnhjoaaGreat
