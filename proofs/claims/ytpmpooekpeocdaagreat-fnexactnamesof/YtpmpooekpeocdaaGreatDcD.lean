/- How a level that comes in as an argument is read: whatever was read as one lies in memory as a row of nodes. -/
import Derived.Test.YtpmpooekpeocdaaGreatSz
import Derived.Deep.Slices
import Derived.Deep.Strs
import Derived.Lib.SmallJoins
import Derived.Test.YtpmpooekpeocdaaGreatStrs
import Derived.Test.YtpmpooekpeocdaaGreatDcB
import Derived.WalkKit
import Derived.ProofKit
import Derived.OpenShut
import Derived.ShutString
import Derived.ChangeOld
import Derived.Below
namespace Go.Proofs.YtpmpooekpeocdaaGreat
open Go.ChangeShapes Go.WideShapes Go.ChangeAt Go.RowKit Go.Deep

theorem Tryz.cells247 : Tryz.prog.cellsOf 247 = 1 := by kernel_rfl
theorem Tryz.cells245 : Tryz.prog.cellsOf 245 = 1 := by kernel_rfl
theorem Tryz.cells321 : Tryz.prog.cellsOf 321 = 3 := by kernel_rfl
theorem Tryz.cells3 : Tryz.prog.cellsOf 3 = 1 := by kernel_rfl
theorem Tryz.cells9 : Tryz.prog.cellsOf 9 = 1 := by kernel_rfl
theorem Tryz.cells163 : Tryz.prog.cellsOf 163 = 1 := by kernel_rfl

section
variable {H : Type} {enc : TypeId × Value → H} {W : World} {base : Nat} {held : Bool}

theorem addr_none {w : World} {a : Addr} {v : Value} (h : w.cell? (a.add 0) = some v) : ∃ b off, a = ⟨b, off, none⟩ := by
  obtain ⟨b, off, spot⟩ := a
  have hs := World.cell?_spot h
  simp [Addr.add] at hs
  exact ⟨b, off, by rw [hs]⟩
theorem list3 {α : Type} {l : List α} (h : l.length = 3) : ∃ a b c, l = [a, b, c] := by
  match l, h with
  | [a, b, c], _ => exact ⟨a, b, c, rfl⟩

theorem open_kids {fuel : Nat} {kv : Value} {x : DataW H × List MemPlace} (h : DataW.trod enc Tryz.prog W base (fun _ => true) held fuel 163 [kv] = some x) : ∃ ks, IntsAt W kv ks := by
  rcases open_ints Tryz.underlying163 Tryz.underlying3 Tryz.cells3 h with ⟨hcs, _⟩ | ⟨a, len, cap, zs, hcs, _, hl, hm, hz, _, hcell, _⟩
  · simp at hcs
    exact ⟨[], none, 0, hcs, by simp, by unfold maxLen; omega, fun h => by simp at h⟩
  · simp at hcs hz
    have hlen : (zs.take len).length = len := by simp; omega
    refine ⟨zs.take len, some a, cap, by rw [hlen]; exact hcs, by omega, hm, fun h0 => ?_⟩
    have h1 := hcell 0 (by omega)
    obtain ⟨b, off, rfl⟩ := addr_none h1
    refine ⟨b, off, rfl, fun j hj => ?_⟩
    have h2 := hcell j (by omega)
    rw [Addr.add_lit] at h2
    rw [h2]
    simp [List.getD, show j < zs.length from by omega]

theorem open_nodes {fuel : Nat} {v : Value} {x : DataW H × List MemPlace} (h : DataW.trod enc Tryz.prog W base (fun _ => true) held fuel 245 [v] = some x) : ∃ ns, NodesAt W v ns ∧ ∀ nd ∈ ns, nd.s.size ≤ maxLen := by
  rcases open_slice Tryz.underlying245 h with ⟨hcs, _⟩ | ⟨a, len, cap, m, n, D, Pl, hcs, _, hl, hm, hmm, _, hel⟩
  · simp at hcs
    exact ⟨[], ⟨none, 0, hcs, by simp, by unfold maxLen; omega, fun h => by simp at h⟩, by simp⟩
  · simp at hcs hmm
    subst hmm
    rw [Tryz.cells321] at hel
    have each : ∀ i, i < len → ∃ nd : Nd, nd.s.size ≤ maxLen ∧ W.cell? (a.add (i * 3)) = some (.int .i64 nd.k) ∧ W.cell? ((a.add (i * 3)).add 1) = some (.string nd.s) ∧ ∃ kv, W.cell? ((a.add (i * 3)).add 2) = some kv ∧ IntsAt W kv nd.kids := by
      intro i hi
      obtain ⟨cs, hc1, hc2⟩ := hel i (by omega)
      obtain ⟨hb, hlen, hcell⟩ := World.cells?_some hc1
      obtain ⟨y0, y1, y2, n', _, _, t0, t1, t2⟩ := trod_struct3 Tryz.underlying321 hc2
      obtain ⟨c0, c1, c2, rfl⟩ := list3 hlen
      simp [Tryz.cells3, Tryz.cells9, Tryz.cells163] at t0 t1 t2
      obtain ⟨k, e0, _, _⟩ := DataW.trod_int Tryz.underlying3 t0
      obtain ⟨s, e1, _, hs⟩ := DataW.trod_string Tryz.underlying9 t1
      obtain ⟨ks, hk⟩ := open_kids t2
      simp at e0 e1
      subst e0 e1
      refine ⟨⟨k, s, ks⟩, hs, ?_, ?_, c2, ?_, hk⟩
      · have := hcell 0 (by omega); simpa [Addr.add] using this
      · have := hcell 1 (by omega); simpa using this
      · have := hcell 2 (by omega); simpa using this
    haveI : Inhabited Nd := ⟨⟨0, ⟨#[]⟩, []⟩⟩
    obtain ⟨f, hf⟩ := choose_lt (α := Nd) (p := fun i nd => nd.s.size ≤ maxLen ∧ W.cell? (a.add (i * 3)) = some (.int .i64 nd.k) ∧ W.cell? ((a.add (i * 3)).add 1) = some (.string nd.s) ∧ ∃ kv, W.cell? ((a.add (i * 3)).add 2) = some kv ∧ IntsAt W kv nd.kids) each
    refine ⟨(List.range len).map f, ⟨some a, _, by simpa using hcs, by simpa using hl, hm, fun h0 => ?_⟩, ?_⟩
    · have h0' : 0 < len := by simpa using h0
      obtain ⟨_, g1, _⟩ := hf 0 h0'
      rw [Nat.zero_mul] at g1
      obtain ⟨b, off, rfl⟩ := addr_none g1
      refine ⟨b, off, rfl, fun i hi => ?_⟩
      have hi' : i < len := by simpa using hi
      obtain ⟨_, q1, q2, kv, q3, q4⟩ := hf i hi'
      simp only [Addr.add_lit] at q1 q2 q3
      simp only [List.getElem_map, List.getElem_range]
      exact ⟨q1, q2, kv, q3, q4⟩
    · intro nd hnd
      simp at hnd
      obtain ⟨i, hi, rfl⟩ := hnd
      exact (hf i hi).1
end
end Go.Proofs.YtpmpooekpeocdaaGreat

/- How a term that comes in as an argument is read: whatever was read as one lies in memory as a row of nodes. -/
namespace Go.Proofs.YtpmpooekpeocdaaGreat
open Go.ChangeShapes Go.WideShapes Go.ChangeAt Go.RowKit Go.Deep

theorem Tryz.cells173 : Tryz.prog.cellsOf 173 = 6 := by kernel_rfl
theorem Tryz.cells171 : Tryz.prog.cellsOf 171 = 1 := by kernel_rfl

section
variable {H : Type} {enc : TypeId × Value → H} {W : World} {base : Nat} {held : Bool}

theorem list6 {α : Type} {l : List α} (h : l.length = 6) : ∃ a b c d e f, l = [a, b, c, d, e, f] := by
  match l, h with
  | [a, b, c, d, e, f], _ => exact ⟨a, b, c, d, e, f, rfl⟩
theorem trod_struct6 {P : Program} {spare : Nat → Bool} {t : TypeId} {f0 f1 f2 f3 f4 f5 : Field} {fuel : Nat} {cs : List Value} {x : DataW H × List MemPlace} (ht : P.underlying t = some (.struct #[f0, f1, f2, f3, f4, f5])) (h : DataW.trod enc P W base spare held fuel t cs = some x) :
    ∃ y0 y1 y2 y3 y4 y5 n, cs.length = P.cellsOf t ∧ DataW.trod enc P W base spare held n f0.type ((cs.drop f0.offset).take (P.cellsOf f0.type)) = some y0 ∧
      DataW.trod enc P W base spare held n f1.type ((cs.drop f1.offset).take (P.cellsOf f1.type)) = some y1 ∧ DataW.trod enc P W base spare held n f2.type ((cs.drop f2.offset).take (P.cellsOf f2.type)) = some y2 ∧
      DataW.trod enc P W base spare held n f3.type ((cs.drop f3.offset).take (P.cellsOf f3.type)) = some y3 ∧ DataW.trod enc P W base spare held n f4.type ((cs.drop f4.offset).take (P.cellsOf f4.type)) = some y4 ∧
      DataW.trod enc P W base spare held n f5.type ((cs.drop f5.offset).take (P.cellsOf f5.type)) = some y5 := by
  obtain ⟨xs, n, _, rfl, hl, hlen, hf⟩ := DataW.trod_struct ht h
  match xs, hlen with
  | [y0, y1, y2, y3, y4, y5], _ => exact ⟨y0, y1, y2, y3, y4, y5, n, hl, by simpa using hf 0 f0 rfl, by simpa using hf 1 f1 rfl, by simpa using hf 2 f2 rfl, by simpa using hf 3 f3 rfl, by simpa using hf 4 f4 rfl, by simpa using hf 5 f5 rfl⟩

set_option maxRecDepth 20000 in
theorem open_levs {fuel : Nat} {v : Value} {x : DataW H × List MemPlace} (h : DataW.trod enc Tryz.prog W base (fun _ => true) held fuel 171 [v] = some x) : ∃ ls, LevsAt W v ls ∧ ∀ l ∈ ls, LvLens l := by
  rcases open_slice Tryz.underlying171 h with ⟨hcs, _⟩ | ⟨a, len, cap, m, n, D, Pl, hcs, _, hl, hm, hmm, _, hel⟩
  · simp at hcs
    exact ⟨[], ⟨none, 0, hcs, by simp, by unfold maxLen; omega, fun h => by simp at h⟩, by simp⟩
  · simp at hcs hmm
    subst hmm
    rw [Tryz.cells247] at hel
    have each : ∀ i, i < len → ∃ l : List Nd, LvLens l ∧ ∃ u, W.cell? (a.add (i * 1)) = some u ∧ NodesAt W u l := by
      intro i hi
      obtain ⟨cs, hc1, hc2⟩ := hel i (by omega)
      obtain ⟨hb, hlen, hcell⟩ := World.cells?_some hc1
      obtain ⟨y0, n', _, _, t0⟩ := trod_struct1 Tryz.underlying247 hc2
      obtain ⟨c0, rfl⟩ : ∃ c0, cs = [c0] := by
        match cs, hlen with
        | [c], _ => exact ⟨c, rfl⟩
      simp [Tryz.cells245] at t0
      obtain ⟨ns, hns, hsz⟩ := open_nodes t0
      refine ⟨ns, hsz, c0, ?_, hns⟩
      have := hcell 0 (by omega); simpa [Addr.add] using this
    haveI : Inhabited (List Nd) := ⟨[]⟩
    obtain ⟨f, hf⟩ := choose_lt (α := List Nd) (p := fun i l => LvLens l ∧ ∃ u, W.cell? (a.add (i * 1)) = some u ∧ NodesAt W u l) each
    refine ⟨(List.range len).map f, ⟨some a, _, by simpa using hcs, by simpa using hl, hm, fun h0 => ?_⟩, ?_⟩
    · have h0' : 0 < len := by simpa using h0
      obtain ⟨_, u0, g1, _⟩ := hf 0 h0'
      rw [Nat.zero_mul] at g1
      obtain ⟨b, off, rfl⟩ := addr_none g1
      refine ⟨b, off, rfl, fun i hi => ?_⟩
      have hi' : i < len := by simpa using hi
      obtain ⟨_, u, q1, q2⟩ := hf i hi'
      simp only [Addr.add_lit, Nat.mul_one] at q1
      simp only [List.getElem_map, List.getElem_range]
      exact ⟨u, q1, q2⟩
    · intro l hl
      simp at hl
      obtain ⟨i, hi, rfl⟩ := hl
      exact (hf i hi).1

set_option maxRecDepth 20000 in
theorem open_tnodes {fuel : Nat} {v : Value} {x : DataW H × List MemPlace} (h : DataW.trod enc Tryz.prog W base (fun _ => true) held fuel 23 [v] = some x) : ∃ ts, TNodesAt W v ts ∧ ∀ td ∈ ts, TLens td := by
  rcases open_slice Tryz.underlying23 h with ⟨hcs, _⟩ | ⟨a, len, cap, m, n, D, Pl, hcs, _, hl, hm, hmm, _, hel⟩
  · simp at hcs
    exact ⟨[], ⟨none, 0, hcs, by simp, by unfold maxLen; omega, fun h => by simp at h⟩, by simp⟩
  · simp at hcs hmm
    subst hmm
    rw [Tryz.cells173] at hel
    have each : ∀ i, i < len → ∃ td : Td, TLens td ∧ W.cell? (a.add (i * 6)) = some (.int .i64 td.k) ∧ W.cell? ((a.add (i * 6)).add 1) = some (.int .i64 td.n) ∧ W.cell? ((a.add (i * 6)).add 2) = some (.int .i64 td.m) ∧ W.cell? ((a.add (i * 6)).add 3) = some (.string td.s) ∧ ∃ lv, W.cell? ((a.add (i * 6)).add 4) = some lv ∧ LevsAt W lv td.lv ∧ ∃ kv, W.cell? ((a.add (i * 6)).add 5) = some kv ∧ IntsAt W kv td.kids := by
      intro i hi
      obtain ⟨cs, hc1, hc2⟩ := hel i (by omega)
      obtain ⟨hb, hlen, hcell⟩ := World.cells?_some hc1
      obtain ⟨y0, y1, y2, y3, y4, y5, n', _, t0, t1, t2, t3, t4, t5⟩ := trod_struct6 Tryz.underlying173 hc2
      obtain ⟨c0, c1, c2, c3, c4, c5, rfl⟩ := list6 hlen
      simp [Tryz.cells3, Tryz.cells9, Tryz.cells163, Tryz.cells171] at t0 t1 t2 t3 t4 t5
      obtain ⟨k, e0, _, _⟩ := DataW.trod_int Tryz.underlying3 t0
      obtain ⟨n1, e1, _, _⟩ := DataW.trod_int Tryz.underlying3 t1
      obtain ⟨m1, e2, _, _⟩ := DataW.trod_int Tryz.underlying3 t2
      obtain ⟨s, e3, _, hs⟩ := DataW.trod_string Tryz.underlying9 t3
      obtain ⟨ls, hls, hlz⟩ := open_levs t4
      obtain ⟨ks, hk⟩ := open_kids t5
      simp at e0 e1 e2 e3
      subst e0 e1 e2 e3
      refine ⟨⟨k, n1, m1, s, ls, ks⟩, ⟨hs, hlz⟩, ?_, ?_, ?_, ?_, c4, ?_, hls, c5, ?_, hk⟩
      · have := hcell 0 (by omega); simpa [Addr.add] using this
      · have := hcell 1 (by omega); simpa using this
      · have := hcell 2 (by omega); simpa using this
      · have := hcell 3 (by omega); simpa using this
      · have := hcell 4 (by omega); simpa using this
      · have := hcell 5 (by omega); simpa using this
    haveI : Inhabited Td := ⟨⟨0, 0, 0, ⟨#[]⟩, [], []⟩⟩
    obtain ⟨f, hf⟩ := choose_lt (α := Td) (p := fun i td => TLens td ∧ W.cell? (a.add (i * 6)) = some (.int .i64 td.k) ∧ W.cell? ((a.add (i * 6)).add 1) = some (.int .i64 td.n) ∧ W.cell? ((a.add (i * 6)).add 2) = some (.int .i64 td.m) ∧ W.cell? ((a.add (i * 6)).add 3) = some (.string td.s) ∧ ∃ lv, W.cell? ((a.add (i * 6)).add 4) = some lv ∧ LevsAt W lv td.lv ∧ ∃ kv, W.cell? ((a.add (i * 6)).add 5) = some kv ∧ IntsAt W kv td.kids) each
    refine ⟨(List.range len).map f, ⟨some a, _, by simpa using hcs, by simpa using hl, hm, fun h0 => ?_⟩, ?_⟩
    · have h0' : 0 < len := by simpa using h0
      obtain ⟨_, g1, _⟩ := hf 0 h0'
      rw [Nat.zero_mul] at g1
      obtain ⟨b, off, rfl⟩ := addr_none g1
      refine ⟨b, off, rfl, fun i hi => ?_⟩
      have hi' : i < len := by simpa using hi
      obtain ⟨_, q1, q2, q3, q4, lv, q5, q6, kv, q7, q8⟩ := hf i hi'
      simp only [Addr.add_lit] at q1 q2 q3 q4 q5 q7
      simp only [List.getElem_map, List.getElem_range]
      exact ⟨q1, q2, q3, q4, lv, q5, q6, kv, q7, q8⟩
    · intro td hnd
      simp at hnd
      obtain ⟨i, hi, rfl⟩ := hnd
      exact (hf i hi).1
end
end Go.Proofs.YtpmpooekpeocdaaGreat

/- How a declaration that comes in as an argument is read. -/
namespace Go.Proofs.YtpmpooekpeocdaaGreat
open Go.ChangeShapes Go.WideShapes Go.ChangeAt Go.RowKit Go.Deep

theorem Tryz.cellsD28 : Tryz.prog.cellsOf 28 = 7 := by kernel_rfl
theorem Tryz.cellsD129 : Tryz.prog.cellsOf 129 = 2 := by kernel_rfl
theorem Tryz.cellsD25 : Tryz.prog.cellsOf 25 = 1 := by kernel_rfl
theorem Tryz.cellsD26 : Tryz.prog.cellsOf 26 = 1 := by kernel_rfl
theorem Tryz.cellsD22 : Tryz.prog.cellsOf 22 = 1 := by kernel_rfl
theorem Tryz.cellsD23 : Tryz.prog.cellsOf 23 = 1 := by kernel_rfl

section
variable {H : Type} {enc : TypeId × Value → H} {W : World} {base : Nat} {held : Bool}

theorem list7 {α : Type} {l : List α} (h : l.length = 7) : ∃ a b c d e f g, l = [a, b, c, d, e, f, g] := by
  match l, h with
  | [a, b, c, d, e, f, g], _ => exact ⟨a, b, c, d, e, f, g, rfl⟩
theorem trod_struct7 {P : Program} {spare : Nat → Bool} {t : TypeId} {f0 f1 f2 f3 f4 f5 f6 : Field} {fuel : Nat} {cs : List Value} {x : DataW H × List MemPlace} (ht : P.underlying t = some (.struct #[f0, f1, f2, f3, f4, f5, f6])) (h : DataW.trod enc P W base spare held fuel t cs = some x) :
    ∃ y0 y1 y2 y3 y4 y5 y6 n, cs.length = P.cellsOf t ∧ DataW.trod enc P W base spare held n f0.type ((cs.drop f0.offset).take (P.cellsOf f0.type)) = some y0 ∧
      DataW.trod enc P W base spare held n f1.type ((cs.drop f1.offset).take (P.cellsOf f1.type)) = some y1 ∧ DataW.trod enc P W base spare held n f2.type ((cs.drop f2.offset).take (P.cellsOf f2.type)) = some y2 ∧
      DataW.trod enc P W base spare held n f3.type ((cs.drop f3.offset).take (P.cellsOf f3.type)) = some y3 ∧ DataW.trod enc P W base spare held n f4.type ((cs.drop f4.offset).take (P.cellsOf f4.type)) = some y4 ∧
      DataW.trod enc P W base spare held n f5.type ((cs.drop f5.offset).take (P.cellsOf f5.type)) = some y5 ∧ DataW.trod enc P W base spare held n f6.type ((cs.drop f6.offset).take (P.cellsOf f6.type)) = some y6 := by
  obtain ⟨xs, n, _, rfl, hl, hlen, hf⟩ := DataW.trod_struct ht h
  match xs, hlen with
  | [y0, y1, y2, y3, y4, y5, y6], _ => exact ⟨y0, y1, y2, y3, y4, y5, y6, n, hl, by simpa using hf 0 f0 rfl, by simpa using hf 1 f1 rfl, by simpa using hf 2 f2 rfl, by simpa using hf 3 f3 rfl, by simpa using hf 4 f4 rfl, by simpa using hf 5 f5 rfl, by simpa using hf 6 f6 rfl⟩
set_option maxRecDepth 100000 in
theorem open_strs1 {fuel : Nat} {v : Value} {x : DataW H × List MemPlace} (h : DataW.trod enc Tryz.prog W base (fun _ => true) held fuel 22 [v] = some x) : ∃ ss, StrsAt W v ss ∧ ∀ s ∈ ss, s.size ≤ maxLen := by
  rcases open_strs Tryz.underlying22 Tryz.underlying9 Tryz.cells9 h with ⟨hcs, _⟩ | ⟨a, len, cap, m, zs, hcs, _, hl, hm, hmm, _, hcell⟩
  · simp at hcs
    exact ⟨[], ⟨none, 0, hcs, by simp, by unfold maxLen; omega, fun h => by simp at h⟩, by simp⟩
  · simp at hcs hmm
    refine ⟨(List.range len).map zs, ⟨some a, cap, by simpa using hcs, by simpa using hl, hm, fun h0 => ?_⟩, ?_⟩
    · have h0' : 0 < len := by simpa using h0
      have h1 := (hcell 0 (by omega)).1
      obtain ⟨b, off, rfl⟩ := addr_none h1
      refine ⟨b, off, rfl, fun j hj => ?_⟩
      have hj' : j < len := by simpa using hj
      have h2 := (hcell j (by omega)).1
      rw [Addr.add_lit] at h2
      rw [h2]
      simp
    · intro s hs
      simp only [List.mem_map, List.mem_range] at hs
      obtain ⟨i, hi, rfl⟩ := hs
      exact (hcell i (by omega)).2
set_option maxRecDepth 100000 in
theorem open_term1 {fuel : Nat} {v : Value} {x : DataW H × List MemPlace} (h : DataW.trod enc Tryz.prog W base (fun _ => true) held fuel 25 [v] = some x) : ∃ ts, TNodesAt W v ts ∧ ∀ td ∈ ts, TLens td := by
  obtain ⟨y0, n, _, _, t0⟩ := trod_struct1 Tryz.underlying25 h
  simp [Tryz.cellsD23] at t0
  exact open_tnodes t0
set_option maxRecDepth 100000 in
theorem open_ctors {fuel : Nat} {v : Value} {x : DataW H × List MemPlace} (h : DataW.trod enc Tryz.prog W base (fun _ => true) held fuel 26 [v] = some x) : ∃ cs, CtorsAt W v cs ∧ ∀ c ∈ cs, CtLens c := by
  rcases open_slice Tryz.underlying26 h with ⟨hcs, _⟩ | ⟨a, len, cap, m, n, D, Pl, hcs, _, hl, hm, hmm, _, hel⟩
  · simp at hcs
    exact ⟨[], ⟨none, 0, hcs, by simp, by unfold maxLen; omega, fun h => by simp at h⟩, by simp⟩
  · simp at hcs hmm
    subst hmm
    rw [Tryz.cellsD129] at hel
    have each : ∀ i, i < len → ∃ c : Ct, CtLens c ∧ W.cell? (a.add (i * 2)) = some (.string c.s) ∧ ∃ u, W.cell? ((a.add (i * 2)).add 1) = some u ∧ TNodesAt W u c.t := by
      intro i hi
      obtain ⟨cs, hc1, hc2⟩ := hel i (by omega)
      obtain ⟨hb, hlen, hcell⟩ := World.cells?_some hc1
      obtain ⟨y0, y1, n', _, _, t0, t1⟩ := trod_struct2 Tryz.underlying129 hc2
      obtain ⟨c0, c1, rfl⟩ : ∃ c0 c1, cs = [c0, c1] := by
        match cs, hlen with
        | [c0, c1], _ => exact ⟨c0, c1, rfl⟩
      simp [Tryz.cells9, Tryz.cellsD25] at t0 t1
      obtain ⟨s, e0, _, hs⟩ := DataW.trod_string Tryz.underlying9 t0
      obtain ⟨ts, hts, hlz⟩ := open_term1 t1
      simp at e0
      subst e0
      refine ⟨⟨s, ts⟩, ⟨hs, hlz⟩, ?_, c1, ?_, hts⟩
      · have := hcell 0 (by omega); simpa [Addr.add] using this
      · have := hcell 1 (by omega); simpa using this
    haveI : Inhabited Ct := ⟨⟨⟨#[]⟩, []⟩⟩
    obtain ⟨f, hf⟩ := choose_lt (α := Ct) (p := fun i c => CtLens c ∧ W.cell? (a.add (i * 2)) = some (.string c.s) ∧ ∃ u, W.cell? ((a.add (i * 2)).add 1) = some u ∧ TNodesAt W u c.t) each
    refine ⟨(List.range len).map f, ⟨some a, _, by simpa using hcs, by simpa using hl, hm, fun h0 => ?_⟩, ?_⟩
    · have h0' : 0 < len := by simpa using h0
      obtain ⟨_, g1, _⟩ := hf 0 h0'
      rw [Nat.zero_mul] at g1
      obtain ⟨b, off, rfl⟩ := addr_none g1
      refine ⟨b, off, rfl, fun i hi => ?_⟩
      have hi' : i < len := by simpa using hi
      obtain ⟨_, q1, u, q2, q3⟩ := hf i hi'
      simp only [Addr.add_lit] at q1 q2
      simp only [List.getElem_map, List.getElem_range]
      exact ⟨q1, u, q2, q3⟩
    · intro c hc
      simp at hc
      obtain ⟨i, hi, rfl⟩ := hc
      exact (hf i hi).1
theorem array7 {α : Type} {a : Array α} (h : a.size = 7) : ∃ x0 x1 x2 x3 x4 x5 x6, a = #[x0, x1, x2, x3, x4, x5, x6] := by
  obtain ⟨l⟩ := a
  obtain ⟨a, b, c, d, e, f, g, rfl⟩ := list7 (l := l) h
  exact ⟨a, b, c, d, e, f, g, rfl⟩
set_option maxRecDepth 100000 in
theorem open_decl {r : Reach} {b0 : Nat} {v : Value} {dd : DataW H} {p : List MemPlace} (hv : Value.okWide Tryz.prog W r b0 28 v) (h : DataW.Trod enc Tryz.prog W base (fun _ => true) held 28 v dd p) :
    ∃ d pv tv vv cv, v = declV d pv tv vv cv ∧ DeclAt W pv tv vv cv d ∧ DcLens d := by
  obtain ⟨cs, rfl, hsz⟩ := okWide_struct Tryz.underlying28 hv
  rw [Tryz.cellsD28] at hsz
  obtain ⟨x0, x1, x2, x3, x4, x5, x6, rfl⟩ := array7 hsz
  obtain ⟨fuel, hf⟩ := h
  obtain ⟨y0, y1, y2, y3, y4, y5, y6, n, _, t0, t1, t2, t3, t4, t5, t6⟩ := trod_struct7 Tryz.underlying28 hf
  simp [Value.cells, Tryz.cells3, Tryz.cells9, Tryz.cellsD22, Tryz.cellsD25, Tryz.cellsD26] at t0 t1 t2 t3 t4 t5 t6
  obtain ⟨k, e0, _, _⟩ := DataW.trod_int Tryz.underlying3 t0
  obtain ⟨s, e1, _, hs⟩ := DataW.trod_string Tryz.underlying9 t1
  obtain ⟨ss, hss, hsl⟩ := open_strs1 t2
  obtain ⟨ts, hts, htl⟩ := open_term1 t3
  obtain ⟨us, hus, hul⟩ := open_term1 t4
  obtain ⟨f, e5, _, _⟩ := DataW.trod_int Tryz.underlying3 t5
  obtain ⟨cc, hcc, hcl⟩ := open_ctors t6
  simp at e0 e1 e5
  subst e0 e1 e5
  exact ⟨⟨k, s, ss, ts, us, f, cc⟩, x2, x3, x4, x6, rfl, ⟨hss, hts, hus, hcc⟩, ⟨hs, hsl, htl, hul, hcl⟩⟩
end
end Go.Proofs.YtpmpooekpeocdaaGreat
