/- How rows that come in as arguments are read: whatever was read as constraints lies in memory as a row of triples, whatever was read as numbers as a row of numbers of their kind. -/
import Derived.Test.YteedainidoldoaaMem
import Derived.Deep.Slices
import Derived.Deep.Strs
import Derived.Lib.SmallJoins
import Derived.ChangeSlices
namespace Go.Proofs.Yteedainidoldoaa
open Go.ChangeShapes Go.WideShapes Go.ChangeAt Go.RowKit Go.Deep

theorem Try.cells22 : Try.prog.cellsOf 22 = 1 := by kernel_rfl
theorem Try.cells45 : Try.prog.cellsOf 45 = 3 := by kernel_rfl
theorem Try.cells3 : Try.prog.cellsOf 3 = 1 := by kernel_rfl

section
variable {H : Type} {enc : TypeId × Value → H} {W : World} {base : Nat} {held : Bool}

theorem addr_none {w : World} {a : Addr} {v : Value} (h : w.cell? (a.add 0) = some v) : ∃ b off, a = ⟨b, off, none⟩ := by
  obtain ⟨b, off, spot⟩ := a
  have hs := World.cell?_spot h
  simp [Addr.add] at hs
  exact ⟨b, off, by rw [hs]⟩
theorem list3 {α : Type} {l : List α} (h : l.length = 3) : ∃ a b c, l = [a, b, c] := by
  match l, h with
  | [a, b, c], _ => exact ⟨a, b, c, rfl⟩

/-- Numbers of the kind int. -/
def Fits (ks : List Int) : Prop := ∀ n ∈ ks, -9223372036854775808 ≤ n ∧ n ≤ 9223372036854775807

theorem open_nums {r : Reach} {b0 : Nat} {v : Value} {d : DataW H} {p : List MemPlace} (hv : Value.okWide Try.prog W r b0 24 v) (h : DataW.Trod enc Try.prog W base (fun _ => true) held 24 v d p) : ∃ ks, IntsAt W v ks ∧ Fits ks := by
  obtain ⟨a0, len0, cap0, rfl⟩ := okWide_slice Try.underlying24 hv
  obtain ⟨fuel, h⟩ := h
  rcases open_ints Try.underlying24 Try.underlying3 Try.cells3 h with ⟨hcs, _⟩ | ⟨a, len, cap, zs, hcs, _, hl, hm, hz, _, hcell, hw⟩
  · simp [Value.cells] at hcs
    obtain ⟨rfl, rfl, rfl⟩ := hcs
    exact ⟨[], ⟨none, 0, rfl, by simp, by unfold maxLen; omega, fun h => by simp at h⟩, fun n hn => by simp at hn⟩
  · simp [Value.cells] at hcs hz
    obtain ⟨rfl, rfl, rfl⟩ := hcs
    have hlen : (zs.take len0).length = len0 := by simp; omega
    refine ⟨zs.take len0, ⟨some a, cap0, by rw [hlen], by omega, hm, fun h0 => ?_⟩, fun n hn => ?_⟩
    · have h1 := hcell 0 (by omega)
      obtain ⟨b, off, rfl⟩ := addr_none h1
      refine ⟨b, off, rfl, fun j hj => ?_⟩
      have h2 := hcell j (by omega)
      rw [Addr.add_lit] at h2
      rw [h2]
      simp [List.getD, show j < zs.length from by omega]
    · have := hw n (List.mem_of_mem_take hn)
      simp [Lit.wf, IntKind.min, IntKind.max] at this
      simp [IntKind.signed, IntKind.bits] at this
      omega

theorem open_conss {fuel : Nat} {v : Value} {x : DataW H × List MemPlace} (h : DataW.trod enc Try.prog W base (fun _ => true) held fuel 22 [v] = some x) : ∃ cs, ConsAt W v cs := by
  rcases open_slice Try.underlying22 h with ⟨hcs, _⟩ | ⟨a, len, cap, m, n, D, Pl, hcs, _, hl, hm, hmm, _, hel⟩
  · simp at hcs
    exact ⟨[], none, 0, hcs, by simp, by unfold maxLen; omega, fun h => by simp at h⟩
  · simp at hcs hmm
    subst hmm
    rw [Try.cells45] at hel
    have each : ∀ i, i < len → ∃ c : Cn, W.cell? (a.add (i * 3)) = some (.int .i64 c.a) ∧ W.cell? ((a.add (i * 3)).add 1) = some (.int .i64 c.n) ∧ W.cell? ((a.add (i * 3)).add 2) = some (.int .i64 c.b) := by
      intro i hi
      obtain ⟨cs, hc1, hc2⟩ := hel i (by omega)
      obtain ⟨hb, hlen, hcell⟩ := World.cells?_some hc1
      obtain ⟨y0, y1, y2, n', _, _, t0, t1, t2⟩ := trod_struct3 Try.underlying45 hc2
      obtain ⟨c0, c1, c2, rfl⟩ := list3 hlen
      simp [Try.cells3] at t0 t1 t2
      obtain ⟨k0, e0, _, _⟩ := DataW.trod_int Try.underlying3 t0
      obtain ⟨k1, e1, _, _⟩ := DataW.trod_int Try.underlying3 t1
      obtain ⟨k2, e2, _, _⟩ := DataW.trod_int Try.underlying3 t2
      simp at e0 e1 e2
      subst e0 e1 e2
      refine ⟨⟨k0, k1, k2⟩, ?_, ?_, ?_⟩
      · have := hcell 0 (by omega); simpa [Addr.add] using this
      · have := hcell 1 (by omega); simpa using this
      · have := hcell 2 (by omega); simpa using this
    obtain ⟨f, hf⟩ := choose_lt (α := Cn) (p := fun i c => W.cell? (a.add (i * 3)) = some (.int .i64 c.a) ∧ W.cell? ((a.add (i * 3)).add 1) = some (.int .i64 c.n) ∧ W.cell? ((a.add (i * 3)).add 2) = some (.int .i64 c.b)) each
    refine ⟨(List.range len).map f, some a, _, by simpa using hcs, by simpa using hl, hm, fun h0 => ?_⟩
    have h0' : 0 < len := by simpa using h0
    obtain ⟨g1, _⟩ := hf 0 h0'
    rw [Nat.zero_mul] at g1
    obtain ⟨b, off, rfl⟩ := addr_none g1
    refine ⟨b, off, rfl, fun i hi => ?_⟩
    have hi' : i < len := by simpa using hi
    obtain ⟨q1, q2, q3⟩ := hf i hi'
    simp only [Addr.add_lit] at q1 q2 q3
    simp only [List.getElem_map, List.getElem_range]
    exact ⟨q1, q2, q3⟩
theorem open_cons {r : Reach} {b0 : Nat} {v : Value} {d : DataW H} {p : List MemPlace} (hv : Value.okWide Try.prog W r b0 22 v) (h : DataW.Trod enc Try.prog W base (fun _ => true) held 22 v d p) : ∃ cs, ConsAt W v cs := by
  obtain ⟨a0, len0, cap0, rfl⟩ := okWide_slice Try.underlying22 hv
  obtain ⟨fuel, h⟩ := h
  exact open_conss (v := .slice a0 len0 cap0) (by simpa [Value.cells] using h)
end
end Go.Proofs.Yteedainidoldoaa
