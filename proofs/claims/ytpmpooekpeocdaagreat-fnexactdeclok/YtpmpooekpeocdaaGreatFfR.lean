/- What stands in the block that the specification's l5Read answers. No program is walked here. -/
import Derived.Test.YtpmpooekpeocdaaGreatDcR
import Derived.Test.YtpmpooekpeocdaaGreatFoA
namespace Go.Proofs.YtpmpooekpeocdaaGreat
open Go.ChangeShapes Go.WideShapes Go.ChangeAt Go.RowKit

theorem rows_apart {w : World} {b1 b2 s1 s2 n1 n2 : Nat} {e1 e2 : TypeId} {v1 v2 : Value} {xs1 xs2 : List Value} (h1 : w.ownsRow b1 e1 s1 v1 n1 xs1) (h2 : w.ownsRow b2 e2 s2 v2 n2 xs2) (he : e1 ≠ e2) (g : Nat) (hg1 : v1.ownBlock = some g) : v2.ownBlock ≠ some g := by
  intro hg2
  rcases h1.2 with ⟨a, _⟩ | ⟨g1, c1, cu1, a, _, k1, _⟩
  · rw [a] at hg1; simp [Value.ownBlock] at hg1
  rcases h2.2 with ⟨a2, _⟩ | ⟨g2, c2, cu2, a2, _, k2, _⟩
  · rw [a2] at hg2; simp [Value.ownBlock] at hg2
  have q1 : g1 = g := by rw [a] at hg1; simpa [Value.ownBlock] using hg1
  have q2 : g2 = g := by rw [a2] at hg2; simpa [Value.ownBlock] using hg2
  subst q1
  subst q2
  rw [k1] at k2
  injection k2 with k2
  injection k2 with _ k2 _
  exact he k2
theorem Tryz.info136 : (Tryz.prog.info? 136).map (fun i => (i.zero, i.size, i.bytes)) = some (some (.agg #[.string ⟨#[]⟩, .pointer none]), 2, 24) := by kernel_rfl
structure DcV (d : Dc) : Prop where
  t : ∀ td ∈ d.t, td.lv.length ≤ 1048576
  v : ∀ td ∈ d.v, td.lv.length ≤ 1048576
  cs : ∀ c ∈ d.cs, ∀ td ∈ c.t, td.lv.length ≤ 1048576
/-- A row of another kind is written. -/
theorem carry_row {Q R : Nat → Prop} {w w' : World} {base s n : Nat} {e : TypeId} {v : Value} {xs : List Value} (hr : w.ownsRow base e s v n xs) (h1 : e ≠ 102) (h2 : e ≠ 191) (hg : w.grownBy w' v.ownBlock) (hQ : ∀ b, Q b → b < w.heap.size → v.ownBlock ≠ some b ∧ R b) : Carry Q R w w' := by
  refine ⟨fun p ys h => row_same h (fun g hp => hg.block g (World.ownsRow.lt h g hp).2 (fun ee => rows_apart h hr (fun e2 => h1 e2.symm) g hp ee.symm)),
    fun b hb hl => ⟨(hQ b hb hl).2, fun o u hu => by rw [hg.cell_far ⟨b, o, none⟩ hl (fun ee => (hQ b hb hl).1 ee.symm)]; exact hu⟩,
    fun ps us h => ⟨h.1, fun j a1 a2 => ((h.2 j a1 a2).grown hg (fun k hk => ?_)).mono hg.size⟩⟩
  rcases hr.2 with ⟨h', _⟩ | ⟨g', cap', cur, h', _, h4, _⟩
  · rw [h'] at hk; simp [Value.ownBlock] at hk
  · rw [h'] at hk
    have ek : g' = k := by simpa [Value.ownBlock] using hk
    subst ek
    exact ⟨cur, e, h2, h4⟩
/-- The blocks that l5Read does not write once a term is read. -/
def offB (B : Nat) (v1 v2 : Value) (b : Nat) : Prop := b ≠ B ∧ v1.ownBlock ≠ some b ∧ v2.ownBlock ≠ some b
theorem carry_new {Q : Nat → Prop} {w : World} {lo B : Nat} {v1 v2 : Value} (hQ : ∀ b, Q b → lo ≤ b) (hB : B < lo) (h1 : ∀ g, v1.ownBlock = some g → g < lo) (h2 : ∀ g, v2.ownBlock = some g → g < lo) : Carry Q (offB B v1 v2) w w :=
  ⟨fun _ _ h => h, fun b hb _ => ⟨⟨fun e => by have := hQ b hb; omega, fun e => by have := hQ b hb; have := h1 b e; omega, fun e => by have := hQ b hb; have := h2 b e; omega⟩, fun _ _ h => h⟩, fun _ _ h => h⟩
theorem carry_bel {Q : Nat → Prop} {w w' : World} {B : Nat} {v1 v2 : Value} (hb : Below w.heap.size w w') (hQ : ∀ b, Q b → offB B (.slice none 0 0) v2 b) (h1 : ∀ g, v1.ownBlock = some g → w.heap.size ≤ g) : Carry Q (offB B v1 v2) w w' :=
  ⟨fun _ _ h => h.keep hb, fun b hk hl => ⟨⟨(hQ b hk).1, fun e => by have := h1 b e; omega, (hQ b hk).2.2⟩, fun _ _ hu => keep_cell hb hu⟩, fun _ _ h => h.keep hb⟩
theorem carry_v1 {w w' : World} {B base s n n' cap' g : Nat} {e : TypeId} {v1 v2 : Value} {xs : List Value} (hr : w.ownsRow base e s v1 n xs) (h1 : e ≠ 102) (h2 : e ≠ 191) (hg : w.grownBy w' v1.ownBlock) (hat : v1.ownBlock = some g ∨ g = w.heap.size) : Carry (offB B v1 v2) (offB B (.slice (some ⟨g, 0, none⟩) n' cap') v2) w w' :=
  carry_row hr h1 h2 hg (fun b hb hl => ⟨hb.2.1, hb.1, fun e => by
    have e : g = b := by simpa [Value.ownBlock] using e
    rcases hat with h | h
    · exact hb.2.1 (by rw [h, e])
    · omega, hb.2.2⟩)
theorem carry_v2 {w w' : World} {B base s n n' cap' g : Nat} {e : TypeId} {v1 v2 : Value} {xs : List Value} (hr : w.ownsRow base e s v2 n xs) (h1 : e ≠ 102) (h2 : e ≠ 191) (hg : w.grownBy w' v2.ownBlock) (hat : v2.ownBlock = some g ∨ g = w.heap.size) : Carry (offB B v1 v2) (offB B v1 (.slice (some ⟨g, 0, none⟩) n' cap')) w w' :=
  carry_row hr h1 h2 hg (fun b hb hl => ⟨hb.2.2, hb.1, hb.2.1, fun e => by
    have e : g = b := by simpa [Value.ownBlock] using e
    rcases hat with h | h
    · exact hb.2.2 (by rw [h, e])
    · omega⟩)
theorem carry_set {w : World} {B : Nat} {xs : List Value} {v1 v2 : Value} (h : T7 w B xs) (o : Nat) (u : Value) : Carry (offB B v1 v2) (offB B v1 v2) w (w.setCell ⟨B, o, none⟩ u) := by
  refine carry_row h (by decide) (by decide) (grown_set w ⟨B, o, none⟩ u) (fun b hb hl => ⟨fun e => ?_, hb⟩)
  have e : B = b := by simpa [Value.ownBlock] using e
  exact hb.1 e.symm
/-- A node of the specification's stands for a term. -/
def SpR (Q : Nat → Prop) (w : World) (ts : List Td) (q : Nat) : Prop := ∀ T : Tt, T.flat 0 = ts → SpT Q w T q
theorem SpR.to {Q R : Nat → Prop} {w w' : World} {ts : List Td} {q : Nat} (h : SpR Q w ts q) (hc : Carry Q R w w') : SpR R w' ts q := fun T hT => (h T hT).to hc
theorem SpR.keep {Q : Nat → Prop} {w w' : World} {ts : List Td} {q : Nat} (h : SpR Q w ts q) (hb : Below w.heap.size w w') : SpR Q w' ts q := h.to (Carry.below hb)
def ctCells : List Ct → List Nat → List Value
  | c :: cs, q :: qs => .string c.s :: .pointer (some ⟨q, 0, none⟩) :: ctCells cs qs
  | _, _ => []
theorem ctCells_snoc : ∀ (cs : List Ct) (qs : List Nat) (c : Ct) (q : Nat), cs.length = qs.length → ctCells (cs ++ [c]) (qs ++ [q]) = ctCells cs qs ++ [.string c.s, .pointer (some ⟨q, 0, none⟩)]
  | [], [], _, _, _ => rfl
  | [], _ :: _, _, _, h => by simp at h
  | _ :: _, [], _, _, h => by simp at h
  | a :: cs, b :: qs, c, q, h => by
    simp only [List.cons_append, ctCells]
    rw [ctCells_snoc cs qs c q (by simpa using h)]
/-- What l5Read answers, A saying whether the declaration is shaped. -/
def RdF (base : Nat) (A : Bool) (d : Dc) (pv : Value) (e : Ending) (w' : World) : Prop :=
  (A = false ∧ e = .returned (.pointer none)) ∨
  (A = true ∧ ∃ (B : Nat) (tp vp cv : Value) (qs : List Nat) (Q : Nat → Prop), e = .returned (.pointer (some ⟨B, 0, none⟩)) ∧ base ≤ B ∧ T7 w' B [.int .i64 d.k, .string d.s, pv, tp, vp, .int .i64 d.f, cv] ∧ (d.k ≠ 5 → ∃ q, tp = .pointer (some ⟨q, 0, none⟩) ∧ SpR Q w' d.t q) ∧ qs.length = d.cs.length ∧ w'.ownsRow (B + 1) 136 2 cv d.cs.length (ctCells d.cs qs) ∧ ∀ i (h : i < qs.length) (h2 : i < d.cs.length), SpR Q w' d.cs[i].t qs[i])
end Go.Proofs.YtpmpooekpeocdaaGreat
