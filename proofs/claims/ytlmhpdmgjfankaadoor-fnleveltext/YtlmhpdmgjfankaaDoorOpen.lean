/- How a level that comes in as an argument is read: whatever was read as one lies in memory as a row of nodes. -/
import Derived.Test.YtlmhpdmgjfankaaDoorMem
import Derived.Deep.Slices
import Derived.Deep.Strs
import Derived.Lib.SmallJoins
namespace Go.Proofs.YtlmhpdmgjfankaaDoor
open Go.ChangeShapes Go.WideShapes Go.ChangeAt Go.RowKit Go.Deep

theorem Tryd.cells24 : Tryd.prog.cellsOf 24 = 1 := by kernel_rfl
theorem Tryd.cells22 : Tryd.prog.cellsOf 22 = 1 := by kernel_rfl
theorem Tryd.cells64 : Tryd.prog.cellsOf 64 = 3 := by kernel_rfl
theorem Tryd.cells3 : Tryd.prog.cellsOf 3 = 1 := by kernel_rfl
theorem Tryd.cells9 : Tryd.prog.cellsOf 9 = 1 := by kernel_rfl
theorem Tryd.cells62 : Tryd.prog.cellsOf 62 = 1 := by kernel_rfl

section
variable {H : Type} {enc : TypeId × Value → H} {W : World} {base : Nat} {held : Bool}

theorem addr_none {w : World} {a : Addr} {v : Value} (h : w.cell? (a.add 0) = some v) : ∃ b off, a = ⟨b, off, none⟩ := by
  obtain ⟨b, off, spot⟩ := a
  have hs := World.cell?_spot h
  simp [Addr.add] at hs
  exact ⟨b, off, by rw [hs]⟩
theorem list3 {α : Type} {l : List α} (h : l.length = 3) : ∃ a b c, l = [a, b, c] := by
  match l, h with
  | [a, b, c], _ => exact ⟨a, b, c, rfl⟩

theorem open_kids {fuel : Nat} {kv : Value} {x : DataW H × List MemPlace} (h : DataW.trod enc Tryd.prog W base (fun _ => true) held fuel 62 [kv] = some x) : ∃ ks, IntsAt W kv ks := by
  rcases open_ints Tryd.underlying62 Tryd.underlying3 Tryd.cells3 h with ⟨hcs, _⟩ | ⟨a, len, cap, zs, hcs, _, hl, hm, hz, _, hcell, _⟩
  · simp at hcs
    exact ⟨[], none, 0, hcs, by simp, by unfold maxLen; omega, fun h => by simp at h⟩
  · simp at hcs hz
    have hlen : (zs.take len).length = len := by simp; omega
    refine ⟨zs.take len, some a, cap, by rw [hlen]; exact hcs, by omega, hm, fun h0 => ?_⟩
    have h1 := hcell 0 (by omega)
    obtain ⟨b, off, rfl⟩ := addr_none h1
    refine ⟨b, off, rfl, fun j hj => ?_⟩
    have h2 := hcell j (by omega)
    rw [Addr.add_lit] at h2
    rw [h2]
    simp [List.getD, show j < zs.length from by omega]

theorem open_nodes {fuel : Nat} {v : Value} {x : DataW H × List MemPlace} (h : DataW.trod enc Tryd.prog W base (fun _ => true) held fuel 22 [v] = some x) : ∃ ns, NodesAt W v ns ∧ ∀ nd ∈ ns, nd.s.size ≤ maxLen := by
  rcases open_slice Tryd.underlying22 h with ⟨hcs, _⟩ | ⟨a, len, cap, m, n, D, Pl, hcs, _, hl, hm, hmm, _, hel⟩
  · simp at hcs
    exact ⟨[], ⟨none, 0, hcs, by simp, by unfold maxLen; omega, fun h => by simp at h⟩, by simp⟩
  · simp at hcs hmm
    subst hmm
    rw [Tryd.cells64] at hel
    have each : ∀ i, i < len → ∃ nd : Nd, nd.s.size ≤ maxLen ∧ W.cell? (a.add (i * 3)) = some (.int .i64 nd.k) ∧ W.cell? ((a.add (i * 3)).add 1) = some (.string nd.s) ∧ ∃ kv, W.cell? ((a.add (i * 3)).add 2) = some kv ∧ IntsAt W kv nd.kids := by
      intro i hi
      obtain ⟨cs, hc1, hc2⟩ := hel i (by omega)
      obtain ⟨hb, hlen, hcell⟩ := World.cells?_some hc1
      obtain ⟨y0, y1, y2, n', _, _, t0, t1, t2⟩ := trod_struct3 Tryd.underlying64 hc2
      obtain ⟨c0, c1, c2, rfl⟩ := list3 hlen
      simp [Tryd.cells3, Tryd.cells9, Tryd.cells62] at t0 t1 t2
      obtain ⟨k, e0, _, _⟩ := DataW.trod_int Tryd.underlying3 t0
      obtain ⟨s, e1, _, hs⟩ := DataW.trod_string Tryd.underlying9 t1
      obtain ⟨ks, hk⟩ := open_kids t2
      simp at e0 e1
      subst e0 e1
      refine ⟨⟨k, s, ks⟩, hs, ?_, ?_, c2, ?_, hk⟩
      · have := hcell 0 (by omega); simpa [Addr.add] using this
      · have := hcell 1 (by omega); simpa using this
      · have := hcell 2 (by omega); simpa using this
    haveI : Inhabited Nd := ⟨⟨0, ⟨#[]⟩, []⟩⟩
    obtain ⟨f, hf⟩ := choose_lt (α := Nd) (p := fun i nd => nd.s.size ≤ maxLen ∧ W.cell? (a.add (i * 3)) = some (.int .i64 nd.k) ∧ W.cell? ((a.add (i * 3)).add 1) = some (.string nd.s) ∧ ∃ kv, W.cell? ((a.add (i * 3)).add 2) = some kv ∧ IntsAt W kv nd.kids) each
    refine ⟨(List.range len).map f, ⟨some a, _, by simpa using hcs, by simpa using hl, hm, fun h0 => ?_⟩, ?_⟩
    · have h0' : 0 < len := by simpa using h0
      obtain ⟨_, g1, _⟩ := hf 0 h0'
      rw [Nat.zero_mul] at g1
      obtain ⟨b, off, rfl⟩ := addr_none g1
      refine ⟨b, off, rfl, fun i hi => ?_⟩
      have hi' : i < len := by simpa using hi
      obtain ⟨_, q1, q2, kv, q3, q4⟩ := hf i hi'
      simp only [Addr.add_lit] at q1 q2 q3
      simp only [List.getElem_map, List.getElem_range]
      exact ⟨q1, q2, kv, q3, q4⟩
    · intro nd hnd
      simp at hnd
      obtain ⟨i, hi, rfl⟩ := hnd
      exact (hf i hi).1
theorem array1 {α : Type} {a : Array α} (h : a.size = 1) : ∃ x, a = #[x] := by
  obtain ⟨l⟩ := a
  match l, h with
  | [x], _ => exact ⟨x, rfl⟩
set_option maxRecDepth 100000 in
theorem open_level {r : Reach} {b0 : Nat} {v : Value} {d : DataW H} {p : List MemPlace} (hv : Value.okWide Tryd.prog W r b0 24 v) (h : DataW.Trod enc Tryd.prog W base (fun _ => true) held 24 v d p) :
    ∃ c, v = .agg #[c] ∧ ∃ ns, NodesAt W c ns ∧ ∀ nd ∈ ns, nd.s.size ≤ maxLen := by
  obtain ⟨cs, rfl, hsz⟩ := okWide_struct Tryd.underlying24 hv
  rw [Tryd.cells24] at hsz
  obtain ⟨c, rfl⟩ := array1 hsz
  obtain ⟨fuel, hf⟩ := h
  obtain ⟨y0, n, _, _, ht⟩ := trod_struct1 Tryd.underlying24 hf
  simp [Value.cells, Tryd.cells22] at ht
  exact ⟨c, rfl, open_nodes ht⟩
end
end Go.Proofs.YtlmhpdmgjfankaaDoor
