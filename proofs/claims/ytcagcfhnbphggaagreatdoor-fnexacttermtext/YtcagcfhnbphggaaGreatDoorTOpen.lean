/- The tables that the row lists, as the walks read them. -/
import Derived.Test.YtcagcfhnbphggaaGreatDoorRows
import Derived.Test.YtcagcfhnbphggaaGreatDoorTtF
import Derived.Test.YtcagcfhnbphggaaGreatDoorOpen
import Derived.OpenShut
import Derived.Deep.Strs
import Derived.Lib.LaidTab
import Derived.Test.YtcagcfhnbphggaaGreatDoorTMem
namespace Go.Proofs.YtcagcfhnbphggaaGreatDoor
open Go.ChangeShapes Go.WideShapes Go.ChangeAt Go.RowKit Go.Deep

theorem gPow : Tryz.prog.globalNamed "internal/strconv.uint64pow10" = some 1 := by kernel_rfl
theorem gForms : Tryz.prog.globalNamed "loop.example/g00005/impl.termForms" = some 0 := by kernel_rfl
theorem tPow : (Tryz.prog.globals[1]?).map (·.type) = some 155 := by kernel_rfl
theorem tForms : (Tryz.prog.globals[0]?).map (·.type) = some 138 := by kernel_rfl
theorem Tryz.cells113 : Tryz.prog.cellsOf 113 = 3 := by kernel_rfl
theorem Tryz.cells155 : Tryz.prog.cellsOf 155 = 20 := by kernel_rfl
theorem Tryz.cells146 : Tryz.prog.cellsOf 146 = 1 := by kernel_rfl
theorem pow_data : Rows.laid_internal_strconv_uint64pow10 (H := Unit) = Lib.tabData .u64 Lib.pow10Tab := rfl
/-- One form's cells. -/
theorem form_of {H : Type} {enc : TypeId × Value → H} {W : World} {base : Nat} {sp : Nat → Bool} {held : Bool} {m : Nat} {cs : List Value} {k : Int} {l1 l2 : List UInt8} {q : List MemPlace}
    (h : DataW.trod enc Tryz.prog W base sp held m 113 cs = some (.agg [.lit (.int .i64 k), .lit (.string l1), .lit (.string l2)], q)) : cs = [.int .i64 k, .string (bA l1), .string (bA l2)] := by
  obtain ⟨y0, y1, y2, n, hx, hl, t0, t1, t2⟩ := trod_struct3 Tryz.underlying113 h
  rw [Tryz.cells113] at hl
  obtain ⟨a, b, c, rfl⟩ := list3 hl
  simp only [Tryz.cells3, Tryz.cells9, List.drop_zero, List.drop_succ_cons, List.take_succ_cons, List.take_zero] at t0 t1 t2
  obtain ⟨z, hz, rfl, _⟩ := DataW.trod_int Tryz.underlying3 t0
  obtain ⟨s, hs, rfl, _⟩ := DataW.trod_string Tryz.underlying9 t1
  obtain ⟨u, hu, rfl, _⟩ := DataW.trod_string Tryz.underlying9 t2
  simp at hx hz hs hu
  obtain ⟨⟨rfl, h1, h2⟩, _⟩ := hx
  subst hz hs hu
  have e1 : s = bA l1 := by rw [h1]; simp [bA]
  have e2 : u = bA l2 := by rw [h2]; simp [bA]
  rw [e1, e2]
theorem list5 {α : Type} {l : List α} (h : l.length = 5) : ∃ a b c d e, l = [a, b, c, d, e] := by
  match l, h with
  | [a, b, c, d, e], _ => exact ⟨a, b, c, d, e, rfl⟩
set_option maxRecDepth 20000 in
theorem forms_cells {W : World} {fuel : Nat} {cs : List Value} {p : List MemPlace} (h : DataW.trod (fun _ => ()) Tryz.prog W 0 (fun _ => true) false fuel 138 cs = some (Rows.laid_loop_example_g00005_impl_termForms, p)) : ∀ j, j < 15 → cs[j]? = formsV[j]? := by
  obtain ⟨xs, m, _, hx, hl, hn, hi⟩ := DataW.trod_array Tryz.underlying138 h
  obtain ⟨y0, y1, y2, y3, y4, rfl⟩ := list5 hn
  have hx1 := congrArg Prod.fst hx
  simp only [Rows.laid_loop_example_g00005_impl_termForms, List.map_cons, List.map_nil, DataW.agg.injEq, List.cons.injEq, and_true] at hx1
  obtain ⟨x0, x1, x2, x3, x4⟩ := hx1
  rw [Tryz.cells113] at hi
  have f0 := form_of (q := y0.2) ((hi 0 (by omega)).trans (by rw [x0]; rfl))
  have f1 := form_of (q := y1.2) ((hi 1 (by omega)).trans (by rw [x1]; rfl))
  have f2 := form_of (q := y2.2) ((hi 2 (by omega)).trans (by rw [x2]; rfl))
  have f3 := form_of (q := y3.2) ((hi 3 (by omega)).trans (by rw [x3]; rfl))
  have f4 := form_of (q := y4.2) ((hi 4 (by omega)).trans (by rw [x4]; rfl))
  have hg : ∀ i r, r < 3 → ((cs.drop (i * 3)).take 3)[r]? = cs[i * 3 + r]? := fun i r hr => by
    rw [List.getElem?_take, if_pos hr, List.getElem?_drop]
  intro j hj
  rcases (show j = 0 ∨ j = 1 ∨ j = 2 ∨ j = 3 ∨ j = 4 ∨ j = 5 ∨ j = 6 ∨ j = 7 ∨ j = 8 ∨ j = 9 ∨ j = 10 ∨ j = 11 ∨ j = 12 ∨ j = 13 ∨ j = 14 by omega) with rfl | rfl | rfl | rfl | rfl | rfl | rfl | rfl | rfl | rfl | rfl | rfl | rfl | rfl | rfl
  · rw [← hg 0 0 (by omega), f0]; rfl
  · rw [← hg 0 1 (by omega), f0]; rfl
  · rw [← hg 0 2 (by omega), f0]; rfl
  · rw [← hg 1 0 (by omega), f1]; rfl
  · rw [← hg 1 1 (by omega), f1]; rfl
  · rw [← hg 1 2 (by omega), f1]; rfl
  · rw [← hg 2 0 (by omega), f2]; rfl
  · rw [← hg 2 1 (by omega), f2]; rfl
  · rw [← hg 2 2 (by omega), f2]; rfl
  · rw [← hg 3 0 (by omega), f3]; rfl
  · rw [← hg 3 1 (by omega), f3]; rfl
  · rw [← hg 3 2 (by omega), f3]; rfl
  · rw [← hg 4 0 (by omega), f4]; rfl
  · rw [← hg 4 1 (by omega), f4]; rfl
  · rw [← hg 4 2 (by omega), f4]; rfl
/-- WHAT THE ROW's LIST GIVES. -/
theorem tabs_of {W : World} (h : laidMetH Tryz.prog Rows.fnExactTermTextRow.laid W) : Tabs W := by
  have h' : laidMet Tryz.prog [("math/bits.deBruijn32tab", Rows.laid_math_bits_deBruijn32tab), ("math/bits.deBruijn64tab", Rows.laid_math_bits_deBruijn64tab), ("internal/strconv.uint64pow10", Rows.laid_internal_strconv_uint64pow10), ("loop.example/g00005/impl.termForms", Rows.laid_loop_example_g00005_impl_termForms)] W := h
  obtain ⟨ps, hl, _, _⟩ := h'
  obtain ⟨_, _, _, _, _, _, _, _, _, _, hl, _⟩ := hl
  obtain ⟨_, _, _, _, _, _, _, _, _, _, hl, _⟩ := hl
  obtain ⟨g, t, cs, fuel, p, q, hg, ht, hv, hd, hl, _⟩ := hl
  obtain ⟨g', t', cs', fuel', p', q', hg', ht', hv', hd', _, _⟩ := hl
  obtain rfl := Option.some.inj (gPow.symm.trans hg)
  obtain rfl := Option.some.inj (tPow.symm.trans ht)
  obtain rfl := Option.some.inj (gForms.symm.trans hg')
  obtain rfl := Option.some.inj (tForms.symm.trans ht')
  refine ⟨?_, fun j hj => ?_⟩
  · unfold Lib.TabIs
    rw [pow_data] at hd
    rw [hv, ← Lib.cells_of_tab Tryz.underlying155 Tryz.underlying146 Tryz.cells146 Tryz.cells155 hd]
  · rw [World.var?_cell hg' hv' j]
    have := forms_cells hd' j hj
    rw [← this]
    simp
end Go.Proofs.YtcagcfhnbphggaaGreatDoor

/- How a term that comes in as an argument is read: whatever was read as one lies in memory as a row of nodes. -/
namespace Go.Proofs.YtcagcfhnbphggaaGreatDoor
open Go.ChangeShapes Go.WideShapes Go.ChangeAt Go.RowKit Go.Deep

theorem Tryz.cells24 : Tryz.prog.cellsOf 24 = 1 := by kernel_rfl
theorem Tryz.cells22 : Tryz.prog.cellsOf 22 = 1 := by kernel_rfl
theorem Tryz.cells54 : Tryz.prog.cellsOf 54 = 6 := by kernel_rfl
theorem Tryz.cells51 : Tryz.prog.cellsOf 51 = 1 := by kernel_rfl

section
variable {H : Type} {enc : TypeId × Value → H} {W : World} {base : Nat} {held : Bool}

theorem list6 {α : Type} {l : List α} (h : l.length = 6) : ∃ a b c d e f, l = [a, b, c, d, e, f] := by
  match l, h with
  | [a, b, c, d, e, f], _ => exact ⟨a, b, c, d, e, f, rfl⟩
theorem trod_struct6 {P : Program} {spare : Nat → Bool} {t : TypeId} {f0 f1 f2 f3 f4 f5 : Field} {fuel : Nat} {cs : List Value} {x : DataW H × List MemPlace} (ht : P.underlying t = some (.struct #[f0, f1, f2, f3, f4, f5])) (h : DataW.trod enc P W base spare held fuel t cs = some x) :
    ∃ y0 y1 y2 y3 y4 y5 n, cs.length = P.cellsOf t ∧ DataW.trod enc P W base spare held n f0.type ((cs.drop f0.offset).take (P.cellsOf f0.type)) = some y0 ∧
      DataW.trod enc P W base spare held n f1.type ((cs.drop f1.offset).take (P.cellsOf f1.type)) = some y1 ∧ DataW.trod enc P W base spare held n f2.type ((cs.drop f2.offset).take (P.cellsOf f2.type)) = some y2 ∧
      DataW.trod enc P W base spare held n f3.type ((cs.drop f3.offset).take (P.cellsOf f3.type)) = some y3 ∧ DataW.trod enc P W base spare held n f4.type ((cs.drop f4.offset).take (P.cellsOf f4.type)) = some y4 ∧
      DataW.trod enc P W base spare held n f5.type ((cs.drop f5.offset).take (P.cellsOf f5.type)) = some y5 := by
  obtain ⟨xs, n, _, rfl, hl, hlen, hf⟩ := DataW.trod_struct ht h
  match xs, hlen with
  | [y0, y1, y2, y3, y4, y5], _ => exact ⟨y0, y1, y2, y3, y4, y5, n, hl, by simpa using hf 0 f0 rfl, by simpa using hf 1 f1 rfl, by simpa using hf 2 f2 rfl, by simpa using hf 3 f3 rfl, by simpa using hf 4 f4 rfl, by simpa using hf 5 f5 rfl⟩

set_option maxRecDepth 20000 in
theorem open_levs {fuel : Nat} {v : Value} {x : DataW H × List MemPlace} (h : DataW.trod enc Tryz.prog W base (fun _ => true) held fuel 51 [v] = some x) : ∃ ls, LevsAt W v ls ∧ ∀ l ∈ ls, LvLens l := by
  rcases open_slice Tryz.underlying51 h with ⟨hcs, _⟩ | ⟨a, len, cap, m, n, D, Pl, hcs, _, hl, hm, hmm, _, hel⟩
  · simp at hcs
    exact ⟨[], ⟨none, 0, hcs, by simp, by unfold maxLen; omega, fun h => by simp at h⟩, by simp⟩
  · simp at hcs hmm
    subst hmm
    rw [Tryz.cells101] at hel
    have each : ∀ i, i < len → ∃ l : List Nd, LvLens l ∧ ∃ u, W.cell? (a.add (i * 1)) = some u ∧ NodesAt W u l := by
      intro i hi
      obtain ⟨cs, hc1, hc2⟩ := hel i (by omega)
      obtain ⟨hb, hlen, hcell⟩ := World.cells?_some hc1
      obtain ⟨y0, n', _, _, t0⟩ := trod_struct1 Tryz.underlying101 hc2
      obtain ⟨c0, rfl⟩ : ∃ c0, cs = [c0] := by
        match cs, hlen with
        | [c], _ => exact ⟨c, rfl⟩
      simp [Tryz.cells99] at t0
      obtain ⟨ns, hns, hsz⟩ := open_nodes t0
      refine ⟨ns, hsz, c0, ?_, hns⟩
      have := hcell 0 (by omega); simpa [Addr.add] using this
    haveI : Inhabited (List Nd) := ⟨[]⟩
    obtain ⟨f, hf⟩ := choose_lt (α := List Nd) (p := fun i l => LvLens l ∧ ∃ u, W.cell? (a.add (i * 1)) = some u ∧ NodesAt W u l) each
    refine ⟨(List.range len).map f, ⟨some a, _, by simpa using hcs, by simpa using hl, hm, fun h0 => ?_⟩, ?_⟩
    · have h0' : 0 < len := by simpa using h0
      obtain ⟨_, u0, g1, _⟩ := hf 0 h0'
      rw [Nat.zero_mul] at g1
      obtain ⟨b, off, rfl⟩ := addr_none g1
      refine ⟨b, off, rfl, fun i hi => ?_⟩
      have hi' : i < len := by simpa using hi
      obtain ⟨_, u, q1, q2⟩ := hf i hi'
      simp only [Addr.add_lit, Nat.mul_one] at q1
      simp only [List.getElem_map, List.getElem_range]
      exact ⟨u, q1, q2⟩
    · intro l hl
      simp at hl
      obtain ⟨i, hi, rfl⟩ := hl
      exact (hf i hi).1

set_option maxRecDepth 20000 in
theorem open_tnodes {fuel : Nat} {v : Value} {x : DataW H × List MemPlace} (h : DataW.trod enc Tryz.prog W base (fun _ => true) held fuel 22 [v] = some x) : ∃ ts, TNodesAt W v ts ∧ ∀ td ∈ ts, TLens td := by
  rcases open_slice Tryz.underlying22 h with ⟨hcs, _⟩ | ⟨a, len, cap, m, n, D, Pl, hcs, _, hl, hm, hmm, _, hel⟩
  · simp at hcs
    exact ⟨[], ⟨none, 0, hcs, by simp, by unfold maxLen; omega, fun h => by simp at h⟩, by simp⟩
  · simp at hcs hmm
    subst hmm
    rw [Tryz.cells54] at hel
    have each : ∀ i, i < len → ∃ td : Td, TLens td ∧ W.cell? (a.add (i * 6)) = some (.int .i64 td.k) ∧ W.cell? ((a.add (i * 6)).add 1) = some (.int .i64 td.n) ∧ W.cell? ((a.add (i * 6)).add 2) = some (.int .i64 td.m) ∧ W.cell? ((a.add (i * 6)).add 3) = some (.string td.s) ∧ ∃ lv, W.cell? ((a.add (i * 6)).add 4) = some lv ∧ LevsAt W lv td.lv ∧ ∃ kv, W.cell? ((a.add (i * 6)).add 5) = some kv ∧ IntsAt W kv td.kids := by
      intro i hi
      obtain ⟨cs, hc1, hc2⟩ := hel i (by omega)
      obtain ⟨hb, hlen, hcell⟩ := World.cells?_some hc1
      obtain ⟨y0, y1, y2, y3, y4, y5, n', _, t0, t1, t2, t3, t4, t5⟩ := trod_struct6 Tryz.underlying54 hc2
      obtain ⟨c0, c1, c2, c3, c4, c5, rfl⟩ := list6 hlen
      simp [Tryz.cells3, Tryz.cells9, Tryz.cells52, Tryz.cells51] at t0 t1 t2 t3 t4 t5
      obtain ⟨k, e0, _, _⟩ := DataW.trod_int Tryz.underlying3 t0
      obtain ⟨n1, e1, _, _⟩ := DataW.trod_int Tryz.underlying3 t1
      obtain ⟨m1, e2, _, _⟩ := DataW.trod_int Tryz.underlying3 t2
      obtain ⟨s, e3, _, hs⟩ := DataW.trod_string Tryz.underlying9 t3
      obtain ⟨ls, hls, hlz⟩ := open_levs t4
      obtain ⟨ks, hk⟩ := open_kids t5
      simp at e0 e1 e2 e3
      subst e0 e1 e2 e3
      refine ⟨⟨k, n1, m1, s, ls, ks⟩, ⟨hs, hlz⟩, ?_, ?_, ?_, ?_, c4, ?_, hls, c5, ?_, hk⟩
      · have := hcell 0 (by omega); simpa [Addr.add] using this
      · have := hcell 1 (by omega); simpa using this
      · have := hcell 2 (by omega); simpa using this
      · have := hcell 3 (by omega); simpa using this
      · have := hcell 4 (by omega); simpa using this
      · have := hcell 5 (by omega); simpa using this
    haveI : Inhabited Td := ⟨⟨0, 0, 0, ⟨#[]⟩, [], []⟩⟩
    obtain ⟨f, hf⟩ := choose_lt (α := Td) (p := fun i td => TLens td ∧ W.cell? (a.add (i * 6)) = some (.int .i64 td.k) ∧ W.cell? ((a.add (i * 6)).add 1) = some (.int .i64 td.n) ∧ W.cell? ((a.add (i * 6)).add 2) = some (.int .i64 td.m) ∧ W.cell? ((a.add (i * 6)).add 3) = some (.string td.s) ∧ ∃ lv, W.cell? ((a.add (i * 6)).add 4) = some lv ∧ LevsAt W lv td.lv ∧ ∃ kv, W.cell? ((a.add (i * 6)).add 5) = some kv ∧ IntsAt W kv td.kids) each
    refine ⟨(List.range len).map f, ⟨some a, _, by simpa using hcs, by simpa using hl, hm, fun h0 => ?_⟩, ?_⟩
    · have h0' : 0 < len := by simpa using h0
      obtain ⟨_, g1, _⟩ := hf 0 h0'
      rw [Nat.zero_mul] at g1
      obtain ⟨b, off, rfl⟩ := addr_none g1
      refine ⟨b, off, rfl, fun i hi => ?_⟩
      have hi' : i < len := by simpa using hi
      obtain ⟨_, q1, q2, q3, q4, lv, q5, q6, kv, q7, q8⟩ := hf i hi'
      simp only [Addr.add_lit] at q1 q2 q3 q4 q5 q7
      simp only [List.getElem_map, List.getElem_range]
      exact ⟨q1, q2, q3, q4, lv, q5, q6, kv, q7, q8⟩
    · intro td hnd
      simp at hnd
      obtain ⟨i, hi, rfl⟩ := hnd
      exact (hf i hi).1
set_option maxRecDepth 100000 in
theorem open_term {r : Reach} {b0 : Nat} {v : Value} {d : DataW H} {p : List MemPlace} (hv : Value.okWide Tryz.prog W r b0 24 v) (h : DataW.Trod enc Tryz.prog W base (fun _ => true) held 24 v d p) :
    ∃ c, v = .agg #[c] ∧ ∃ ts, TNodesAt W c ts ∧ ∀ td ∈ ts, TLens td := by
  obtain ⟨cs, rfl, hsz⟩ := okWide_struct Tryz.underlying24 hv
  rw [Tryz.cells24] at hsz
  obtain ⟨c, rfl⟩ := array1 hsz
  obtain ⟨fuel, hf⟩ := h
  obtain ⟨y0, n, _, _, ht⟩ := trod_struct1 Tryz.underlying24 hf
  simp [Value.cells, Tryz.cells22] at ht
  exact ⟨c, rfl, open_tnodes ht⟩
end
end Go.Proofs.YtcagcfhnbphggaaGreatDoor
