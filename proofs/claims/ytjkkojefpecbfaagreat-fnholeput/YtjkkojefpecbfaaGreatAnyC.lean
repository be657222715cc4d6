/- What the specification's l1Open and l1Many answer. -/
import Derived.Test.YtjkkojefpecbfaaGreatDrawW
namespace Go.Proofs.YtjkkojefpecbfaaGreat
open Go.ChangeShapes Go.WideShapes Go.ChangeAt Go.RowKit

/-- Bytes that came in as an argument. -/
def CodeAt (w : World) (a : Option Addr) (bs : List UInt8) : Prop :=
  0 < bs.length → ∃ b off, a = some ⟨b, off, none⟩ ∧ ∀ j (h : j < bs.length), w.cell? ⟨b, off + j, none⟩ = some (.int .u8 (bs[j].toNat : Int))
theorem CodeAt.bytes {w : World} {a : Option Addr} {bs : List UInt8} (h : CodeAt w a bs) (m : Nat) : BytesAt w.heap.size w a (bs.take m) := fun h0 => by
  have hl : (bs.take m).length = min m bs.length := List.length_take
  obtain ⟨b, off, h1, h2⟩ := h (by omega)
  refine ⟨b, off, h1, lt_cell (h2 0 (by omega)), fun j hj => ?_⟩
  rw [h2 j (by omega)]
  simp
theorem CodeAt.keep {w w' : World} {a : Option Addr} {bs : List UInt8} (h : CodeAt w a bs) (hb : Below w.heap.size w w') : CodeAt w' a bs := fun h0 => by
  obtain ⟨b, off, h1, h2⟩ := h h0
  exact ⟨b, off, h1, fun j hj => keep_cell hb (h2 j hj)⟩

set_option maxRecDepth 20000 in
set_option maxHeartbeats 1000000 in
theorem l1Open_any (a : Option Addr) (bs : List UInt8) (cap : Nat) (w : World) (h : CodeAt w a bs) (hn : bs.length ≤ cap) (hc : cap ≤ maxLen) :
    Calls Tryz.prog 79 #[.slice a bs.length cap] w fun e w' => e = .returned (.pointer (some ⟨w.heap.size, 0, none⟩)) ∧ RdAt ⟨bs.take 1000, 0⟩ w.heap.size w' w.heap.size ∧ Below w.heap.size w w' := by
  have H := hide (h.bytes 1000)
  have hl : (bs.take 1000).length = min 1000 bs.length := List.length_take
  have HL := hide hl
  unfold maxLen at hc
  clear h hl
  obtain ⟨n, hnn⟩ : ∃ n, n = bs.length := ⟨_, rfl⟩
  rw [← hnn] at hn HL ⊢
  clear hnn
  by_cases hb : 1000 < n
  · have d1 : decide (1000 < (n : Int)) = true := by simp; omega
    have hsl : ∀ W : World, (Instr.slice 62 (.slice a n cap) none (some (.int .i64 1000)) none).run Tryz.prog W = .ok (.slice a 1000 cap) W := fun W => by
      rw [run_slice_h W 62 a n cap (by kernel_rfl) .i64 1000 (by omega) (by omega)]
      have h0 : ¬ cap = 0 := by omega
      simp [sliced, go_sem]
    go_enter Tryz.func79, Tryz.ntmps79
    go_wp2_with fail
    go_ret
    have hl2 : (bs.take 1000).length = 1000 := by have := HL.out; omega
    exact ⟨rfl, ⟨a, cap, by rw [hl2]; exact World.ownsRow_lit w _ 1 (Nat.le_refl _) (by unfold maxLen; omega) rfl, by rw [hl2]; exact Nat.le_refl _, by show 0 ≤ 1000; omega, H.out.keep (bel_alloc (Below.refl _ _) _)⟩, bel_alloc (Below.refl _ _) _⟩
  · have d1 : decide (1000 < (n : Int)) = false := by simp; omega
    go_enter Tryz.func79, Tryz.ntmps79
    go_wp2_with fail
    go_ret
    have hl2 : (bs.take 1000).length = n := by have := HL.out; omega
    exact ⟨rfl, ⟨a, cap, by rw [hl2]; exact World.ownsRow_lit w _ 1 (Nat.le_refl _) (by unfold maxLen; omega) rfl, by rw [hl2]; omega, by show 0 ≤ 1000; omega, H.out.keep (bel_alloc (Below.refl _ _) _)⟩, bel_alloc (Below.refl _ _) _⟩

def succs : Nat → Tr → Tr
  | 0, t => t
  | n + 1, t => .one 2 ⟨#[]⟩ (succs n t)
theorem succs_cnt (t : Tr) : ∀ n, (succs n t).cnt = n + t.cnt
  | 0 => by simp [succs]
  | n + 1 => by simp only [succs, Tr.cnt, succs_cnt t n]; omega
set_option maxRecDepth 20000 in
set_option maxHeartbeats 1000000 in
theorem l1Many_any (t : Tr) (p n : Nat) (w : World) (ht : TreeAt w.heap.size w p t) (hn : n ≤ 64) :
    Calls Tryz.prog 197 #[.pointer (some ⟨p, 0, none⟩), .int .i64 (n : Int)] w fun e w' => ∃ g, e = .returned (.pointer (some ⟨g, 0, none⟩)) ∧ TreeAt w'.heap.size w' g (succs n t) ∧ Below w.heap.size w w' := by
  have HT := hide ht
  clear ht
  go_enter Tryz.func197, Tryz.ntmps197
  go_wp2_with fail
  go_loopw [0, 5] (fun l i wr => ∃ (j g : Nat), j ≤ n ∧ i = .int .i64 j ∧ l = .pointer (some ⟨g, 0, none⟩) ∧ Hid (TreeAt wr.heap.size wr g (succs j t)) ∧ Below w.heap.size w wr) (fun _ i _ => n - (intOf i).toNat)
  case atStart => exact ⟨0, p, by omega, rfl, rfl, HT.out, Below.refl _ _⟩
  case round =>
    obtain ⟨j, g, hj, rfl, rfl, HTR, hbel⟩ := hrel
    by_cases hlt : j < n
    · have d1 : decide ((j : Int) < (n : Int)) = true := by simp; omega
      have d2 : decide ((j : Int) ≤ 64) = true := by simp; omega
      go_wp2_with (go_at_call 176; refine (l1Succ_any _ g _ HTR.out).mono ?_; rintro e w3 ⟨rfl, ht3, hb3⟩)
      go_roundw
      case rel => exact ⟨j + 1, _, by omega, by go_num, rfl, ht3, hbel.trans (hb3.mono hbel.size)⟩
      case measure => simp [intOf]; omega
    · have d1 : decide ((j : Int) < (n : Int)) = false := by simp; omega
      have hje : j = n := by omega
      have HTN : Hid (TreeAt wr.heap.size wr g (succs n t)) := by have := HTR.out; rwa [hje] at this
      clear hje
      go_wp2_with fail
      go_ret
      exact ⟨g, rfl, HTN.out, hbel⟩

end Go.Proofs.YtjkkojefpecbfaaGreat

/- A node of a level of one's own is written anew. -/
namespace Go.Proofs.YtjkkojefpecbfaaGreat
open Go.ChangeShapes Go.WideShapes Go.ChangeAt Go.RowKit

theorem set3_far (xs : List Value) (p j : Nat) (a b c : Value) (h1 : j ≠ p * 3) (h2 : j ≠ p * 3 + 1) (h3 : j ≠ p * 3 + 2) : (((xs.set (p * 3) a).set (p * 3 + 1) b).set (p * 3 + 2) c)[j]? = xs[j]? := by
  rw [List.getElem?_set_ne (fun h => h3 h.symm), List.getElem?_set_ne (fun h => h2 h.symm), List.getElem?_set_ne (fun h => h1 h.symm)]
theorem set3_at (xs : List Value) (p : Nat) (a b c : Value) (h : p * 3 + 2 < xs.length) : (((xs.set (p * 3) a).set (p * 3 + 1) b).set (p * 3 + 2) c)[p * 3]? = some a ∧ (((xs.set (p * 3) a).set (p * 3 + 1) b).set (p * 3 + 2) c)[p * 3 + 1]? = some b ∧ (((xs.set (p * 3) a).set (p * 3 + 1) b).set (p * 3 + 2) c)[p * 3 + 2]? = some c := by
  refine ⟨?_, ?_, ?_⟩
  · rw [List.getElem?_set_ne (by omega), List.getElem?_set_ne (by omega), List.getElem?_set_self (by omega)]
  · rw [List.getElem?_set_ne (by omega), List.getElem?_set_self (by rw [List.length_set]; omega)]
  · rw [List.getElem?_set_self (by rw [List.length_set, List.length_set]; omega)]
theorem grown_set3 (w : World) (g i j k : Nat) (a b c : Value) : w.grownBy (((w.setCell ⟨g, i, none⟩ a).setCell ⟨g, j, none⟩ b).setCell ⟨g, k, none⟩ c) (some g) := ((grown_set w ⟨g, i, none⟩ a).trans (grown_set (w.setCell ⟨g, i, none⟩ a) ⟨g, j, none⟩ b)).trans (grown_set ((w.setCell ⟨g, i, none⟩ a).setCell ⟨g, j, none⟩ b) ⟨g, k, none⟩ c)
theorem own_set3 {base e s g n cap : Nat} {w : World} {xs : List Value} (h : w.ownsRow base e s (.slice (some ⟨g, 0, none⟩) n cap) n xs) (i j k : Nat) (a b c : Value) : (((w.setCell ⟨g, i, none⟩ a).setCell ⟨g, j, none⟩ b).setCell ⟨g, k, none⟩ c).ownsRow base e s (.slice (some ⟨g, 0, none⟩) n cap) n (((xs.set i a).set j b).set k c) := by
  have h1 := (h.stored i a).1
  have h2 := (h1.stored j b).1
  exact (h2.stored k c).1
theorem own_len {base e s g n cap : Nat} {w : World} {xs : List Value} (h : w.ownsRow base e s (.slice (some ⟨g, 0, none⟩) n cap) n xs) : xs.length = n * s := h.1

end Go.Proofs.YtjkkojefpecbfaaGreat

/- What is known at each place of the specification's l1Any. -/
namespace Go.Proofs.YtjkkojefpecbfaaGreat
open Go.ChangeShapes Go.WideShapes Go.ChangeAt Go.RowKit

theorem NdRow.rd {ρ : Pl} {base b2 : Nat} {Q : Nat → Prop} {w w' : World} {g cap R : Nat} {ns : List Nd} (h : NdRow base Q w g cap ns) (hr : RdAt ρ b2 w R) (hg : w.grownBy w' (some R)) : NdRow base Q w' g cap ns := by
  obtain ⟨xs, h1, h2⟩ := h
  obtain ⟨a, n, c, p, hrow⟩ := hr.row
  refine ⟨xs, h1.kept hg (.inr (by simp [Value.ownBlock]; exact rows_ne h1 hrow (by decide))), fun i hi => ?_⟩
  obtain ⟨a, b, kv, c, d, q⟩ := h2 i hi
  exact ⟨a, b, kv, c, d.grown hrow (by decide) hg, q⟩

/-- The result's cell, the level's cell, the level's row, and the reader. -/
structure AnySt (ρ : Pl) (base R r0 lb g cap B : Nat) (ns : List Nd) (w0 w : World) : Prop where
  rd : RdAt ρ base w R
  gr : w0.grownBy w (some R)
  nd : NdRow B (fun _ => True) w g cap ns
  xb : w.heap[r0]? = some (.cells #[.slice none 0 0] 111 (0, 0))
  lbk : w.heap[lb]? = some (.cells #[.slice (some ⟨g, 0, none⟩) ns.length cap] 111 (0, 0))
  rr : R < r0
  r0b : r0 < B
  bg : B ≤ g
  glb : g < lb
  w0r : w0.heap.size ≤ r0
theorem AnySt.x0 {ρ : Pl} {base R r0 lb g cap B : Nat} {ns : List Nd} {w0 w : World} (h : AnySt ρ base R r0 lb g cap B ns w0 w) : w.cell? ⟨r0, 0, none⟩ = some (.slice none 0 0) := by rw [cell_of_row _ _ _ _ _ _ h.xb]; rfl
theorem AnySt.l0 {ρ : Pl} {base R r0 lb g cap B : Nat} {ns : List Nd} {w0 w : World} (h : AnySt ρ base R r0 lb g cap B ns w0 w) : w.cell? ⟨lb, 0, none⟩ = some (.slice (some ⟨g, 0, none⟩) ns.length cap) := by rw [cell_of_row _ _ _ _ _ _ h.lbk]; rfl
theorem frozen_of_row {w : World} {b o : Nat} {cs : Array Value} {e : TypeId} (h : w.heap[b]? = some (.cells cs e (0, 0))) : w.frozen? ⟨b, o, none⟩ = false := by
  simp [World.frozen?, h]
theorem AnySt.xf {ρ : Pl} {base R r0 lb g cap B : Nat} {ns : List Nd} {w0 w : World} (h : AnySt ρ base R r0 lb g cap B ns w0 w) : w.frozen? ⟨r0, 0, none⟩ = false := frozen_of_row h.xb
theorem AnySt.lf {ρ : Pl} {base R r0 lb g cap B : Nat} {ns : List Nd} {w0 w : World} (h : AnySt ρ base R r0 lb g cap B ns w0 w) : w.frozen? ⟨lb, 0, none⟩ = false := frozen_of_row h.lbk
theorem AnySt.lt {ρ : Pl} {base R r0 lb g cap B : Nat} {ns : List Nd} {w0 w : World} (h : AnySt ρ base R r0 lb g cap B ns w0 w) : lb < w.heap.size := lt_cell h.l0
theorem AnySt.read {ρ σ : Pl} {base R r0 lb g cap B : Nat} {ns : List Nd} {w0 w w' : World} (h : AnySt ρ base R r0 lb g cap B ns w0 w) (hr : RdAt σ base w' R) (hg : w.grownBy w' (some R)) : AnySt σ base R r0 lb g cap B ns w0 w' := by
  have hl := h.lt
  have h1 := h.rr; have h2 := h.r0b; have h3 := h.bg; have h4 := h.glb
  exact ⟨hr, h.gr.trans hg, h.nd.rd h.rd hg, (hg.block r0 (by omega) (by simp; omega)).trans h.xb, (hg.block lb (by omega) (by simp; omega)).trans h.lbk, h1, h2, h3, h4, h.w0r⟩
theorem AnySt.keep {ρ : Pl} {base R r0 lb g cap B : Nat} {ns : List Nd} {w0 w w' : World} (h : AnySt ρ base R r0 lb g cap B ns w0 w) (hb : Below w.heap.size w w') : AnySt ρ base R r0 lb g cap B ns w0 w' := by
  have hl := h.lt
  have h1 := h.rr; have h2 := h.r0b; have h3 := h.bg; have h4 := h.glb
  exact ⟨h.rd.keep hb, h.gr.trans ((grown_of hb).but _), h.nd.keep hb, (hb.block r0 (by omega)).trans h.xb, (hb.block lb (by omega)).trans h.lbk, h1, h2, h3, h4, h.w0r⟩
theorem grown_newA {w0 w : World} {R : Option Nat} {b o : Nat} (hg : w0.grownBy w R) (h : w0.heap.size ≤ b) (u : Value) : w0.grownBy (w.setCell ⟨b, o, none⟩ u) R := by
  obtain ⟨h1, h2, h3, h4, h5⟩ := hg
  exact ⟨h1, h2, h3, by simp; exact h4, fun k hk hne => (heap_setCell_other w ⟨b, o, none⟩ k u (fun e => by simp at e; omega)).trans (h5 k hk hne)⟩
/-- Texts of few bytes. -/
def Tr.small : Tr → Prop
  | .leaf _ s => s.size ≤ 1000
  | .one _ s a => s.size ≤ 1000 ∧ a.small
  | .two _ s a b => s.size ≤ 1000 ∧ a.small ∧ b.small
def SmallS (ns : List Nd) : Prop := ∀ nd ∈ ns, nd.s.size ≤ 1000
theorem Tr.flat_small : ∀ {t : Tr}, t.small → ∀ o, SmallS (t.flat o)
  | .leaf _ _, h, o => by intro nd hn; simp [Tr.flat] at hn; subst hn; exact h
  | .one _ _ a, h, o => by
    intro nd hn; simp only [Tr.flat, List.mem_append, List.mem_singleton] at hn
    rcases hn with hn | hn
    · exact Tr.flat_small h.2 _ nd hn
    · subst hn; exact h.1
  | .two _ _ a b, h, o => by
    intro nd hn; simp only [Tr.flat, List.mem_append, List.mem_singleton] at hn
    rcases hn with (hn | hn) | hn
    · exact Tr.flat_small h.2.1 _ nd hn
    · exact Tr.flat_small h.2.2 _ nd hn
    · subst hn; exact h.1
theorem fields_small {k : Int} {s : ByteArray} {ks : List Int} (h : fieldsB ⟨k, s, ks⟩ = true) : s.size ≤ 1000 := by
  unfold fieldsB at h
  split at h
  · unfold paramB shortB at h
    simp only [Bool.and_eq_true, decide_eq_true_eq] at h
    omega
  · have h0 : s.toList = [] := by simpa using h
    rw [ByteArray.toList_eq] at h0
    have : s.data.size = 0 := by rw [← Array.length_toList, h0]; rfl
    show s.data.size ≤ 1000
    omega
theorem Tr.ok_small : ∀ {t : Tr}, t.ok → t.small
  | .leaf _ _, h => fields_small h.2
  | .one _ _ _, h => ⟨fields_small h.2.1, Tr.ok_small h.2.2⟩
  | .two _ _ _ _, h => ⟨fields_small h.2.1, Tr.ok_small h.2.2.1, Tr.ok_small h.2.2.2⟩
theorem succs_small {t : Tr} (h : t.small) : ∀ n, (succs n t).small
  | 0 => h
  | n + 1 => ⟨by show (0 : Nat) ≤ 1000; omega, succs_small h n⟩
theorem SmallS.set {ns : List Nd} (h : SmallS ns) (r : Nat) {nd : Nd} (hn : nd.s.size ≤ 1000) : SmallS (ns.set r nd) := fun x hx => by
  rcases List.mem_or_eq_of_mem_set hx with h1 | h1
  · exact h x h1
  · subst h1; exact hn
/-- The end: a level's row is the result. -/
def AnyOut (N : List Nd) (P : Pl) (base R : Nat) (w : World) (e : Ending) (w' : World) : Prop := ∃ g cap ns, e = .returned (.agg #[.slice (some ⟨g, 0, none⟩) ns.length cap]) ∧ (∃ B, w.heap.size ≤ B ∧ NdRow B (fun _ => True) w' g cap ns) ∧ ns.length ≤ 1000 ∧ SmallS ns ∧ RdAt P base w' R ∧ w.grownBy w' (some R) ∧ ns = N
theorem any_out {ρ : Pl} {base R r0 g cap B : Nat} {ns : List Nd} {w0 w : World} (hr : RdAt ρ base w R) (hg : w0.grownBy w (some R)) (hn : NdRow B (fun _ => True) w g cap ns) (hl : ns.length ≤ 1000) (hz : SmallS ns) (hx : w.heap[r0]? = some (.cells #[.slice none 0 0] 111 (0, 0))) (h1 : R < r0) (h2 : r0 ≠ g) (h0 : w0.heap.size ≤ r0) (hbr : base ≤ r0) (hB : w0.heap.size ≤ B) {N : List Nd} (hN : ns = N) {P : Pl} (hP : ρ = P) :
    AnyOut N P base R w0 (.returned (.agg #[.slice (some ⟨g, 0, none⟩) ns.length cap])) (w.setCell ⟨r0, 0, none⟩ (.slice (some ⟨g, 0, none⟩) ns.length cap)) := by
  subst hP
  refine ⟨g, cap, ns, rfl, ?_, hl, hz, hr.grown (grown_set w ⟨r0, 0, none⟩ _) (by show R ≠ r0; omega) hbr, ?_, hN⟩
  · exact ⟨B, hB, hn.set (p := ⟨r0, 0, none⟩) (fun h => h2 h.symm) ⟨_, 111, by decide, hx⟩ _⟩
  · exact grown_newA hg h0 _
theorem NdRow.cells {base : Nat} {Q : Nat → Prop} {w : World} {g cap : Nat} {ns : List Nd} (h : NdRow base Q w g cap ns) (r : Nat) (hr : r < ns.length) : ∃ kv, w.cell? ⟨g, r * 3, none⟩ = some (.int .i64 ns[r].k) ∧ w.cell? ⟨g, r * 3 + 1, none⟩ = some (.string ns[r].s) ∧ w.cell? ⟨g, r * 3 + 2, none⟩ = some kv ∧ KidRow base w kv ns[r].kids := by
  obtain ⟨xs, h1, h2⟩ := h
  obtain ⟨a, b, kv, c, d, _⟩ := h2 r hr
  exact ⟨kv, by rw [h1.cellAt _ (by omega)]; exact a, by rw [h1.cellAt _ (by omega)]; exact b, by rw [h1.cellAt _ (by omega)]; exact c, d⟩
theorem AnySt.far {ρ : Pl} {base R r0 lb g cap B nb j : Nat} {ns : List Nd} {w0 w : World} {cs : Array Value} (h : AnySt ρ base R r0 lb g cap B ns w0 w) (hn : lb < nb) (hb : w.heap[nb]? = some (.cells cs 174 (0, 0))) (u : Value) : AnySt ρ base R r0 lb g cap B ns w0 (w.setCell ⟨nb, j, none⟩ u) := by
  have hl := h.lt
  have h1 := h.rr; have h2 := h.r0b; have h3 := h.bg; have h4 := h.glb; have h5 := h.rd.lt; have h6 := h.w0r
  have hg := grown_set w ⟨nb, j, none⟩ u
  exact ⟨h.rd.grown hg (by show R ≠ nb; omega) (by show base ≤ nb; omega), grown_newA h.gr (by omega) _, h.nd.set (p := ⟨nb, j, none⟩) (by show g ≠ nb; omega) ⟨_, 174, by decide, hb⟩ u, (hg.block r0 (by omega) (by simp; omega)).trans h.xb, (hg.block lb (by omega) (by simp; omega)).trans h.lbk, h1, h2, h3, h4, h6⟩
/-- The node that is changed, in its own block. -/
def AnyNd (B nb : Nat) (w : World) (nd : Nd) (ka : Option Addr) (kc : Nat) : Prop :=
  w.heap[nb]? = some (.cells #[.int .i64 nd.k, .string nd.s, .slice ka nd.kids.length kc] 174 (0, 0)) ∧ KidRow B w (.slice ka nd.kids.length kc) nd.kids
theorem AnyNd.cells {B nb : Nat} {w : World} {nd : Nd} {ka : Option Addr} {kc : Nat} (h : AnyNd B nb w nd ka kc) : w.cell? ⟨nb, 0, none⟩ = some (.int .i64 nd.k) ∧ w.cell? ⟨nb, 1, none⟩ = some (.string nd.s) ∧ w.cell? ⟨nb, 2, none⟩ = some (.slice ka nd.kids.length kc) ∧ w.frozen? ⟨nb, 0, none⟩ = false ∧ w.frozen? ⟨nb, 1, none⟩ = false ∧ w.frozen? ⟨nb, 2, none⟩ = false :=
  ⟨by rw [cell_of_row _ _ _ _ _ _ h.1]; rfl, by rw [cell_of_row _ _ _ _ _ _ h.1]; rfl, by rw [cell_of_row _ _ _ _ _ _ h.1]; rfl, frozen_of_row h.1, frozen_of_row h.1, frozen_of_row h.1⟩
theorem AnyNd.read {ρ : Pl} {base R B nb : Nat} {w w' : World} {nd : Nd} {ka : Option Addr} {kc : Nat} (h : AnyNd B nb w nd ka kc) (hr : RdAt ρ base w R) (hg : w.grownBy w' (some R)) (hn : nb ≠ R) : AnyNd B nb w' nd ka kc := by
  obtain ⟨a, n, c, p, hrow⟩ := hr.row
  exact ⟨(hg.block nb (lt_cell h.cells.1) (by simp; exact hn)).trans h.1, h.2.grown hrow (by decide) hg⟩
theorem AnyNd.keep {B nb : Nat} {w w' : World} {nd : Nd} {ka : Option Addr} {kc : Nat} (h : AnyNd B nb w nd ka kc) (hb : Below w.heap.size w w') : AnyNd B nb w' nd ka kc :=
  ⟨(hb.block nb (lt_cell h.cells.1)).trans h.1, h.2.keep hb⟩
theorem AnyNd.setK {B nb : Nat} {w : World} {nd : Nd} {ka : Option Addr} {kc : Nat} (h : AnyNd B nb w nd ka kc) (k : Int) : AnyNd B nb (w.setCell ⟨nb, 0, none⟩ (.int .i64 k)) ⟨k, nd.s, nd.kids⟩ ka kc :=
  ⟨heap_setCell_same w nb 0 _ 174 _ h.1, h.2.set (p := ⟨nb, 0, none⟩) ⟨_, 174, by decide, h.1⟩ _⟩
theorem AnyNd.setS {B nb : Nat} {w : World} {nd : Nd} {ka : Option Addr} {kc : Nat} (h : AnyNd B nb w nd ka kc) (s : ByteArray) : AnyNd B nb (w.setCell ⟨nb, 1, none⟩ (.string s)) ⟨nd.k, s, nd.kids⟩ ka kc :=
  ⟨heap_setCell_same w nb 1 _ 174 _ h.1, h.2.set (p := ⟨nb, 1, none⟩) ⟨_, 174, by decide, h.1⟩ _⟩
theorem AnyNd.setKids {B nb : Nat} {w : World} {nd : Nd} {x : Value} {ks : List Int} {ka : Option Addr} {kc : Nat} (h : w.heap[nb]? = some (.cells #[.int .i64 nd.k, .string nd.s, x] 174 (0, 0))) (hk : KidRow B w (.slice ka ks.length kc) ks) : AnyNd B nb (w.setCell ⟨nb, 2, none⟩ (.slice ka ks.length kc)) ⟨nd.k, nd.s, ks⟩ ka kc :=
  ⟨heap_setCell_same w nb 2 _ 174 _ h, hk.set (p := ⟨nb, 2, none⟩) ⟨_, 174, by decide, h⟩ _⟩
end Go.Proofs.YtjkkojefpecbfaaGreat

/- A number is appended to the kids of one node. -/
namespace Go.Proofs.YtjkkojefpecbfaaGreat
open Go.ChangeShapes Go.WideShapes Go.ChangeAt Go.RowKit

theorem Tr.flat_kids : ∀ (t : Tr) (o : Nat), ∀ nd ∈ t.flat o, nd.kids.length ≤ 2
  | .leaf _ _, o => by intro nd h; simp [Tr.flat] at h; subst h; simp
  | .one _ _ a, o => by
    intro nd h; simp only [Tr.flat, List.mem_append, List.mem_singleton] at h
    rcases h with h | h
    · exact Tr.flat_kids a _ nd h
    · subst h; simp
  | .two _ _ a b, o => by
    intro nd h; simp only [Tr.flat, List.mem_append, List.mem_singleton] at h
    rcases h with (h | h) | h
    · exact Tr.flat_kids a _ nd h
    · exact Tr.flat_kids b _ nd h
    · subst h; simp
theorem NdRowA.rd {ρ : Pl} {base b2 : Nat} {Q : Nat → Prop} {w w' : World} {g cap R : Nat} {ns : List Nd} (h : NdRowA base Q w g cap ns) (hr : RdAt ρ b2 w R) (hg : w.grownBy w' (some R)) : NdRowA base Q w' g cap ns := by
  obtain ⟨xs, h1, h2, h3⟩ := h
  obtain ⟨a, n, c, p, hrow⟩ := hr.row
  refine ⟨xs, h1.kept hg (.inr (by simp [Value.ownBlock]; exact rows_ne h1 hrow (by decide))), fun i hi => ?_, h3⟩
  obtain ⟨a, b, kv, c, d, q⟩ := h2 i hi
  exact ⟨a, b, kv, c, d.grown hrow (by decide) hg, q⟩
/-- As NdRow, but nothing is said of the kids of node r. -/
def NdRowX (base r : Nat) (w : World) (g cap : Nat) (ns : List Nd) : Prop :=
  ∃ xs, w.ownsRow base 174 3 (.slice (some ⟨g, 0, none⟩) ns.length cap) ns.length xs ∧ (∀ i (h : i < ns.length), xs[i * 3]? = some (.int .i64 ns[i].k) ∧ xs[i * 3 + 1]? = some (.string ns[i].s) ∧ ∃ a n c, xs[i * 3 + 2]? = some (.slice a n c) ∧ (i ≠ r → KidRow base w (.slice a n c) ns[i].kids))
theorem KidRow.form {base : Nat} {w : World} {kv : Value} {ks : List Int} (h : KidRow base w kv ks) : ∃ a n c, kv = .slice a n c := by
  obtain ⟨a, c, h1, _⟩ := h.ints; exact ⟨a, _, c, h1⟩
theorem NdRow.x {base : Nat} {Q : Nat → Prop} {w : World} {g cap : Nat} {ns : List Nd} (h : NdRow base Q w g cap ns) (r : Nat) : NdRowX base r w g cap ns := by
  obtain ⟨xs, h1, h2⟩ := h
  refine ⟨xs, h1, fun i hi => ?_⟩
  obtain ⟨a, b, kv, c, d, _⟩ := h2 i hi
  obtain ⟨x, n, y, rfl⟩ := d.form
  exact ⟨a, b, x, n, y, c, fun _ => d⟩
theorem NdRowX.cells {base r : Nat} {w : World} {g cap : Nat} {ns : List Nd} (h : NdRowX base r w g cap ns) (hr : r < ns.length) : ∃ a n c, w.cell? ⟨g, r * 3, none⟩ = some (.int .i64 ns[r].k) ∧ w.cell? ⟨g, r * 3 + 1, none⟩ = some (.string ns[r].s) ∧ w.cell? ⟨g, r * 3 + 2, none⟩ = some (.slice a n c) ∧ ∀ j, w.frozen? ⟨g, j, none⟩ = false := by
  obtain ⟨xs, h1, h2⟩ := h
  obtain ⟨a, b, x, n, y, c, _⟩ := h2 r hr
  exact ⟨x, n, y, by rw [h1.cellAt _ (by omega)]; exact a, by rw [h1.cellAt _ (by omega)]; exact b, by rw [h1.cellAt _ (by omega)]; exact c, fun j => h1.frozenAt j⟩
theorem NdRowX.put {base r : Nat} {w : World} {g cap : Nat} {ns : List Nd} (h : NdRowX base r w g cap ns) (hp : r < ns.length) (nd : Nd) (kv : Value) (hk : KidRow base w kv nd.kids) :
    NdRow base (fun _ => True) (((w.setCell ⟨g, r * 3, none⟩ (.int .i64 nd.k)).setCell ⟨g, r * 3 + 1, none⟩ (.string nd.s)).setCell ⟨g, r * 3 + 2, none⟩ kv) g cap (ns.set r nd) := by
  obtain ⟨xs, h1, h2⟩ := h
  have hg := grown_set3 w g (r * 3) (r * 3 + 1) (r * 3 + 2) (.int .i64 nd.k) (.string nd.s) kv
  have hx := own_len h1
  have h3 := own_set3 h1 (r * 3) (r * 3 + 1) (r * 3 + 2) (.int .i64 nd.k) (.string nd.s) kv
  have hl : (ns.set r nd).length = ns.length := List.length_set
  generalize hW : ((w.setCell ⟨g, r * 3, none⟩ (.int .i64 nd.k)).setCell ⟨g, r * 3 + 1, none⟩ (.string nd.s)).setCell ⟨g, r * 3 + 2, none⟩ kv = W at hg h3 ⊢
  obtain ⟨a1, a2, a3⟩ := set3_at xs r (.int .i64 nd.k) (.string nd.s) kv (by omega)
  have hf := fun j => set3_far xs r j (.int .i64 nd.k) (.string nd.s) kv
  generalize ((xs.set (r * 3) (.int .i64 nd.k)).set (r * 3 + 1) (.string nd.s)).set (r * 3 + 2) kv = ys at h3 a1 a2 a3 hf
  refine ⟨ys, by rw [hl]; exact h3, fun i hi => ?_⟩
  have hi' : i < ns.length := by omega
  by_cases hip : i = r
  · subst hip
    have e1 : (ns.set i nd)[i] = nd := by simp
    rw [e1]
    exact ⟨a1, a2, kv, a3, hk.grown h1 (by decide) hg, fun _ _ => trivial⟩
  · obtain ⟨a, b, x, n, y, c, d⟩ := h2 i hi'
    have e1 : (ns.set r nd)[i] = ns[i] := List.getElem_set_ne (fun h => hip h.symm) _
    rw [e1]
    exact ⟨by rw [hf _ (by omega) (by omega) (by omega)]; exact a, by rw [hf _ (by omega) (by omega) (by omega)]; exact b, _, by rw [hf _ (by omega) (by omega) (by omega)]; exact c, (d hip).grown h1 (by decide) hg, fun _ _ => trivial⟩

structure AnyStX (ρ : Pl) (base R r0 lb g cap B r : Nat) (ns : List Nd) (w0 w : World) : Prop where
  rd : RdAt ρ base w R
  gr : w0.grownBy w (some R)
  nd : NdRowX B r w g cap ns
  xb : w.heap[r0]? = some (.cells #[.slice none 0 0] 111 (0, 0))
  lbk : w.heap[lb]? = some (.cells #[.slice (some ⟨g, 0, none⟩) ns.length cap] 111 (0, 0))
  rr : R < r0
  r0b : r0 < B
  bg : B ≤ g
  glb : g < lb
  w0r : w0.heap.size ≤ r0
theorem AnySt.x {ρ : Pl} {base R r0 lb g cap B : Nat} {ns : List Nd} {w0 w : World} (h : AnySt ρ base R r0 lb g cap B ns w0 w) (r : Nat) : AnyStX ρ base R r0 lb g cap B r ns w0 w :=
  ⟨h.rd, h.gr, h.nd.x r, h.xb, h.lbk, h.rr, h.r0b, h.bg, h.glb, h.w0r⟩
theorem AnyStX.x0 {ρ : Pl} {base R r0 lb g cap B r : Nat} {ns : List Nd} {w0 w : World} (h : AnyStX ρ base R r0 lb g cap B r ns w0 w) : w.cell? ⟨r0, 0, none⟩ = some (.slice none 0 0) := by rw [cell_of_row _ _ _ _ _ _ h.xb]; rfl
theorem AnyStX.l0 {ρ : Pl} {base R r0 lb g cap B r : Nat} {ns : List Nd} {w0 w : World} (h : AnyStX ρ base R r0 lb g cap B r ns w0 w) : w.cell? ⟨lb, 0, none⟩ = some (.slice (some ⟨g, 0, none⟩) ns.length cap) := by rw [cell_of_row _ _ _ _ _ _ h.lbk]; rfl
theorem AnyStX.put {ρ : Pl} {base R r0 lb g cap B r : Nat} {ns : List Nd} {w0 w : World} (h : AnyStX ρ base R r0 lb g cap B r ns w0 w) (hp : r < ns.length) (nd : Nd) (kv : Value) (hk : KidRow B w kv nd.kids) :
    AnySt ρ base R r0 lb g cap B (ns.set r nd) w0 (((w.setCell ⟨g, r * 3, none⟩ (.int .i64 nd.k)).setCell ⟨g, r * 3 + 1, none⟩ (.string nd.s)).setCell ⟨g, r * 3 + 2, none⟩ kv) := by
  have hl := lt_cell h.l0
  have h1 := h.rr; have h2 := h.r0b; have h3 := h.bg; have h4 := h.glb; have h5 := h.rd.lt; have h6 := h.w0r
  have hg := grown_set3 w g (r * 3) (r * 3 + 1) (r * 3 + 2) (.int .i64 nd.k) (.string nd.s) kv
  exact ⟨h.rd.grown hg (by omega) (by omega), grown_newA (grown_newA (grown_newA h.gr (by omega) _) (by omega) _) (by omega) _, h.nd.put hp nd kv hk, (hg.block r0 (by omega) (by simp; omega)).trans h.xb, by rw [List.length_set]; exact (hg.block lb (by omega) (by simp; omega)).trans h.lbk, h1, h2, h3, h4, h6⟩
theorem AnyStX.far {ρ : Pl} {base R r0 lb g cap B r nb j : Nat} {ns : List Nd} {w0 w : World} {cs : Array Value} (h : AnyStX ρ base R r0 lb g cap B r ns w0 w) (hn : lb < nb) (hb : w.heap[nb]? = some (.cells cs 174 (0, 0))) (u : Value) : AnyStX ρ base R r0 lb g cap B r ns w0 (w.setCell ⟨nb, j, none⟩ u) := by
  have hl := lt_cell h.l0
  have h1 := h.rr; have h2 := h.r0b; have h3 := h.bg; have h4 := h.glb; have h5 := h.rd.lt; have h6 := h.w0r
  have hg := grown_set w ⟨nb, j, none⟩ u
  obtain ⟨xs, k1, k2⟩ := h.nd
  refine ⟨h.rd.grown hg (by show R ≠ nb; omega) (by show base ≤ nb; omega), grown_newA h.gr (by omega) _, ⟨xs, own_set k1 (p := ⟨nb, j, none⟩) (by show g ≠ nb; omega) u, fun i hi => ?_⟩, (hg.block r0 (by omega) (by simp; omega)).trans h.xb, (hg.block lb (by omega) (by simp; omega)).trans h.lbk, h1, h2, h3, h4, h6⟩
  obtain ⟨a, b, x, n, y, c, d⟩ := k2 i hi
  exact ⟨a, b, x, n, y, c, fun hr => (d hr).set (p := ⟨nb, j, none⟩) ⟨_, 174, by decide, hb⟩ u⟩
theorem kid_block {B : Nat} {w : World} {kv : Value} {ks : List Int} (h : KidRow B w kv ks) (hB : B ≤ w.heap.size) : ∃ b, B ≤ b ∧ (kv.ownBlock = some b ∨ (kv.ownBlock = none ∧ b = w.heap.size)) ∧ ∀ c cs e, e ≠ 3 → w.heap[c]? = some (.cells cs e (0, 0)) → c ≠ b := by
  rcases h.2 with ⟨h1, _⟩ | ⟨g', cap', cur, h1, h2, h3, _⟩
  · refine ⟨w.heap.size, hB, .inr ⟨by rw [h1]; rfl, rfl⟩, fun c cs e _ hc hcb => ?_⟩
    subst hcb; simp at hc
  · refine ⟨g', h2, .inl (by rw [h1]; rfl), fun c cs e he hc hcb => ?_⟩
    subst hcb; rw [h3] at hc; simp at hc; exact he hc.2.symm
theorem grown_some {w w' : World} {kv : Value} {b : Nat} (hg : w.grownBy w' kv.ownBlock) (h : kv.ownBlock = some b ∨ (kv.ownBlock = none ∧ b = w.heap.size)) : w.grownBy w' (some b) := by
  rcases h with h | ⟨h, _⟩
  · rw [h] at hg; exact hg
  · rw [h] at hg; exact hg.but _
theorem AnySt.kid {ρ : Pl} {base R r0 lb g cap B r : Nat} {ns : List Nd} {w0 w w' : World} {kv : Value} {ks : List Int} (h : AnySt ρ base R r0 lb g cap B ns w0 w) (ha : NdRowA B (fun _ => True) w g cap ns) (hr : r < ns.length) (hc : w.cell? ⟨g, r * 3 + 2, none⟩ = some kv) (hk : KidRow B w kv ks) (hg : w.grownBy w' kv.ownBlock) : AnyStX ρ base R r0 lb g cap B r ns w0 w' := by
  have hl := h.lt
  have h1 := h.rr; have h2 := h.r0b; have h3 := h.bg; have h4 := h.glb; have h5 := h.rd.lt; have h6 := h.w0r
  obtain ⟨b, hb1, hb2, hb3⟩ := kid_block hk (by omega)
  have hgb := grown_some hg hb2
  obtain ⟨cR, htR⟩ := h.rd.tag
  have nR : R ≠ b := hb3 R _ 176 (by decide) htR
  have n0 : r0 ≠ b := hb3 r0 _ 111 (by decide) h.xb
  have nl : lb ≠ b := hb3 lb _ 111 (by decide) h.lbk
  obtain ⟨xs, k1, k2, k3⟩ := ha
  obtain ⟨cg, htg⟩ := row_tag k1
  have ng : g ≠ b := hb3 g _ 174 (by decide) htg
  have hxr : xs[r * 3 + 2]? = some kv := by rw [← k1.cellAt _ (by omega)]; exact hc
  refine ⟨h.rd.grown hgb nR (by omega), ?_, ⟨xs, k1.kept hgb (.inr (by simp [Value.ownBlock]; exact ng)), fun i hi => ?_⟩, (hgb.block r0 (by omega) (by simp; exact n0)).trans h.xb, (hgb.block lb (by omega) (by simp; exact nl)).trans h.lbk, h1, h2, h3, h4, h6⟩
  · exact h.gr.andThen hgb (fun q hq => by simp at hq; exact .inl (by omega))
  · obtain ⟨a, c, kv', d, e, _⟩ := k2 i hi
    obtain ⟨x, n, y, rfl⟩ := e.form
    refine ⟨a, c, x, n, y, d, fun hir => World.ownsRow.kept e hgb ?_⟩
    cases hob : (Value.slice x n y).ownBlock with
    | none => exact .inl rfl
    | some b' =>
      refine .inr (fun hbb => ?_)
      have hbb : b' = b := by simpa using hbb
      rcases hb2 with hh | ⟨_, hh⟩
      · exact k3 i r hi hr hir _ _ b' d hxr hob (by rw [hh, hbb])
      · have := (World.ownsRow.lt e b' hob).2; omega
theorem AnyNd.grownK {B nb : Nat} {w w' : World} {nd : Nd} {ka : Option Addr} {kc : Nat} (h : AnyNd B nb w nd ka kc) (hB : B ≤ w.heap.size) (hg : w.grownBy w' (Value.slice ka nd.kids.length kc).ownBlock) : w'.heap[nb]? = some (.cells #[.int .i64 nd.k, .string nd.s, .slice ka nd.kids.length kc] 174 (0, 0)) := by
  obtain ⟨b, hb1, hb2, hb3⟩ := kid_block h.2 hB
  exact ((grown_some hg hb2).block nb (lt_cell h.cells.1) (by simp; exact hb3 nb _ 174 (by decide) h.1)).trans h.1
end Go.Proofs.YtjkkojefpecbfaaGreat
