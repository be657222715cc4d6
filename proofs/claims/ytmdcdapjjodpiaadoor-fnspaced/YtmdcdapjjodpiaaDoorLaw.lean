/- Proved: the law FnSpaced answers true at every row of bytes, and the row and the two tables (the words, the signs) read afterwards as before; the tables that the row lists are tied to the program's text (the given tie). No condition. -/
import Derived.Test.YtmdcdapjjodpiaaDoorCards
import Derived.Test.YtmdcdapjjodpiaaDoorTie
import Derived.Test.YtmdcdapjjodpiaaDoorWls
import Derived.WalkKit
import Derived.ProofKit
import Derived.OpenShut
import Derived.OpenVars
import Derived.ShutString
import Derived.ChangeOld
import Derived.Below
import Derived.Deep.DeepHandedRow
import Derived.Deep.Strs
import Derived.Lib.LaidTab
namespace Go.Proofs.YtmdcdapjjodpiaaDoor
open Go.ChangeShapes Go.WideShapes Go.ChangeAt Go.RowKit

theorem spc_own : ownKnob Tryd.prog.godebug = none := by kernel_rfl
theorem spc_laidOut : laidOutB Tryd.prog = true := by kernel_rfl
theorem addr_none {w : World} {a : Addr} {v : Value} (h : w.cell? (a.add 0) = some v) : ∃ b off, a = ⟨b, off, none⟩ := by
  obtain ⟨b, off, spot⟩ := a
  have hs := World.cell?_spot h
  simp [Addr.add] at hs
  exact ⟨b, off, by rw [hs]⟩

section
open Go.Deep
variable {H : Type} {enc : TypeId × Value → H} {W : World} {base : Nat} {held : Bool}
set_option maxRecDepth 100000 in
theorem open_text {r : Reach} {b0 : Nat} {v : Value} {d : DataW H} {p : List MemPlace} (hv : Value.okWide Tryd.prog W r b0 22 v) (h : DataW.Trod enc Tryd.prog W base (fun _ => true) held 22 v d p) : ∃ T, BytesV W v T := by
  obtain ⟨a0, len0, cap0, rfl⟩ := okWide_slice Tryd.underlying22 hv
  obtain ⟨fuel, h⟩ := h
  have h' : DataW.trod enc Tryd.prog W base (fun _ => true) held fuel 22 [.slice a0 len0 cap0] = some (d, p) := by simpa [Value.cells] using h
  rcases open_ints Tryd.underlying22 Tryd.underlying5 (by kernel_rfl) h' with ⟨hcs, _⟩ | ⟨a, len, cap, zs, hcs, _, hl, hm, hz, _, hcell, hwf⟩
  · simp at hcs
    obtain ⟨rfl, rfl, rfl⟩ := hcs
    exact ⟨⟨#[]⟩, none, 0, rfl, Nat.le_refl _, by unfold maxLen; omega, fun h => by exact absurd h (by decide)⟩
  · simp at hcs hz
    obtain ⟨rfl, rfl, rfl⟩ := hcs
    have hlen : ((zs.take len0).map (fun z => UInt8.ofNat z.toNat)).length = len0 := by rw [List.length_map, List.length_take]; omega
    have hsz : (⟨((zs.take len0).map (fun z => UInt8.ofNat z.toNat)).toArray⟩ : ByteArray).size = len0 := by
      show ((zs.take len0).map (fun z => UInt8.ofNat z.toNat)).toArray.size = len0
      rw [List.size_toArray, hlen]
    refine ⟨⟨((zs.take len0).map (fun z => UInt8.ofNat z.toNat)).toArray⟩, some a, cap0, by rw [hsz], by rw [hsz]; omega, hm, fun h0 => ?_⟩
    rw [hsz] at h0
    have h1 := hcell 0 (by omega)
    obtain ⟨b, off, rfl⟩ := addr_none h1
    refine ⟨b, off, rfl, fun j hj => ?_⟩
    have hj0 := hj
    rw [hsz] at hj0
    have h2 := hcell j (by omega)
    rw [Addr.add_lit] at h2
    have hjz : j < zs.length := by omega
    have h3 := hwf zs[j] (List.getElem_mem hjz)
    have h4 : IntKind.u8.min = 0 := by decide
    have h5 : IntKind.u8.max = 255 := by decide
    simp only [Lit.wf, Bool.and_eq_true, decide_eq_true_eq] at h3
    have hjl : j < ((zs.take len0).map (fun z => UInt8.ofNat z.toNat)).length := by omega
    have h6 : ((((zs.take len0).map (fun z => UInt8.ofNat z.toNat))[j]'hjl).toNat : Int) = zs[j] := by
      rw [List.getElem_map, List.getElem_take, UInt8.toNat_ofNat']
      omega
    have h7 : (⟨((zs.take len0).map (fun z => UInt8.ofNat z.toNat)).toArray⟩ : ByteArray)[j]'hj = ((zs.take len0).map (fun z => UInt8.ofNat z.toNat))[j]'hjl := by
      rw [← get_data _ j hj]
    rw [h7, h6, h2]
    simp [List.getD, hjz]
end
theorem gSigns : Tryd.prog.globalNamed "loop.example/g00005/impl.sourceSigns" = some 0 := by kernel_rfl
theorem gWords : Tryd.prog.globalNamed "loop.example/g00005/impl.sourceWords" = some 1 := by kernel_rfl
theorem tSigns : (Tryd.prog.globals[0]?).map (·.type) = some 52 := by kernel_rfl
theorem tWords : (Tryd.prog.globals[1]?).map (·.type) = some 59 := by kernel_rfl
theorem Tryd.cells9n : Tryd.prog.cellsOf 9 = 1 := by kernel_rfl
/-- An array of texts, its cells. -/
theorem strs_cells {W : World} {n : Nat} {t : TypeId} (hu : Tryd.prog.underlying t = some (.array n 9)) {L : List ByteArray} (hn : L.length = n) {fuel : Nat} {cs : List Value} {p : List MemPlace}
    (h : DataW.trod (fun _ => ()) Tryd.prog W 0 (fun _ => true) false fuel t cs = some (.agg (L.map fun s => .lit (.string s.data.toList)), p)) : ∀ j (hj : j < L.length), cs[j]? = some (.string L[j]) := by
  obtain ⟨xs, m, _, hx, hl, hn2, hi⟩ := DataW.trod_array hu h
  have hx1 := congrArg Prod.fst hx
  simp only [DataW.agg.injEq] at hx1
  intro j hj
  have h1 := hi j (by omega)
  have hxl : j < xs.length := by omega
  rw [Tryd.cells9n, Nat.mul_one, List.getElem?_eq_getElem hxl] at h1
  obtain ⟨s, hs, hx2, _⟩ := DataW.trod_string Tryd.underlying9 h1
  have h3 : (xs.map (·.1))[j]? = some (.lit (.string (L[j]).data.toList)) := by
    rw [← hx1, List.getElem?_map, List.getElem?_eq_getElem hj]; rfl
  rw [List.getElem?_map, List.getElem?_eq_getElem hxl, hx2] at h3
  simp only [Option.map_some, Option.some.injEq, DataW.lit.injEq, Lit.string.injEq] at h3
  have h4 : s = L[j] := by
    apply ByteArray.ext
    exact Array.toList_inj.1 h3
  have h5 : ((cs.drop j).take 1)[0]? = some (.string s) := by rw [hs]; rfl
  rw [List.getElem?_take, if_pos (by omega), List.getElem?_drop, Nat.add_zero] at h5
  rw [h5, h4]
/-- WHAT THE ROW's LIST GIVES. -/
theorem tabs_of {W : World} (h : laidMetH Tryd.prog Rows.fnSpacedRow.laid W) : Tabs W := by
  have h' : laidMet Tryd.prog [("loop.example/g00005/impl.sourceWords", Rows.laid_loop_example_g00005_impl_sourceWords), ("loop.example/g00005/impl.sourceSigns", Rows.laid_loop_example_g00005_impl_sourceSigns)] W := h
  obtain ⟨ps, hl, _, _⟩ := h'
  obtain ⟨g, t, cs, fuel, p, q, hg, ht, hv, hd, hl, _⟩ := hl
  obtain ⟨g', t', cs', fuel', p', q', hg', ht', hv', hd', _, _⟩ := hl
  obtain rfl := Option.some.inj (gWords.symm.trans hg)
  obtain rfl := Option.some.inj (tWords.symm.trans ht)
  obtain rfl := Option.some.inj (gSigns.symm.trans hg')
  obtain rfl := Option.some.inj (tSigns.symm.trans ht')
  refine ⟨fun j hj => ?_, fun j hj => ?_⟩
  · rw [World.var?_cell hg' hv' j]
    have := strs_cells (L := signsL) Tryd.underlying52 rfl hd' j hj
    rw [← this]
    simp
  · rw [World.var?_cell hg hv j]
    have := strs_cells (L := wordsL) Tryd.underlying59 rfl hd j hj
    rw [← this]
    simp
/-- The cells of a listed table. -/
def rowCells {H : Type} : DataW H → List Value
  | .agg l => l.map fun | .lit x => x.value | _ => undef
  | _ => []
def setRow (row : List Value) : Obj → Obj
  | .cells _ t frozen => .cells row.toArray t frozen
  | o => o
/-- A world for the witness: the settled one, the tables holding what their initialisers lay. -/
noncomputable def spcWorld (os : Os) : World :=
  { World.holding Tryd.prog os ⟨#[], #[], []⟩ with heap := ((World.holding Tryd.prog os ⟨#[], #[], []⟩).heap.modify 0 (setRow (rowCells (Rows.laid_loop_example_g00005_impl_sourceSigns (H := Unit))))).modify 1 (setRow (rowCells (Rows.laid_loop_example_g00005_impl_sourceWords (H := Unit)))) }
set_option maxRecDepth 100000 in
theorem spc_met (os : Os) : laidMet Tryd.prog Rows.fnSpacedRow.laid ((spcWorld os).forCall (fun _ _ => 0) ⟨#[], #[.slice none 0 0], []⟩).memory :=
  laidMet_of_run' 8 (by kernel_rfl) (by kernel_rfl)
theorem spc_reads (os : Os) {H : Type} (enc : TypeId × Value → H) : ∃ places, DataW.whole enc Tryd.prog ((spcWorld os).forCall (fun _ _ => 0) ⟨#[], #[.slice none 0 0], []⟩).memory Tryd.f3.params.toList Rows.fnSpacedSpec.vars false #[Value.slice none 0 0].toList 8 = some ([.nil], [Rows.laid_loop_example_g00005_impl_sourceSigns, Rows.laid_loop_example_g00005_impl_sourceWords], places) :=
  ⟨MemPlace.row ⟨0, 0, none⟩ 22 ++ MemPlace.row ⟨1, 0, none⟩ 17, by kernel_rfl⟩

set_option maxRecDepth 100000 in
theorem spc_contract (H : Type) (enc : TypeId × Value → H) (W : World) (base : Nat) (args : Array Value) (ds gs : List (DataW H)) (before : List MemPlace)
    (hval : ∀ (j : Nat) t v, Tryd.f3.params[j]? = some t → args[j]? = some v → Value.okWide Tryd.prog W .any base t v)
    (hW : DataW.Whole enc Tryd.prog Tryd.f3.params.toList Rows.fnSpacedSpec.vars false W args.toList ds gs before) (hL : laidMetH Tryd.prog Rows.fnSpacedRow.laid W) :
    Calls Tryd.prog 3 args W fun e W' => ∃ v, e = .returned v ∧ Rows.fnSpacedSpec.post enc Tryd.prog Tryd.f3 false true false false W args v W' := by
  have hW' := hW
  obtain ⟨p, q, hA0, hV, rfl, hfz, hnd⟩ := hW
  have hA : DataW.TrodAll enc Tryd.prog W 0 (fun _ => true) true Tryd.f3.params.toList args.toList ds p := hA0
  rw [Tryd.params3] at hA hval
  obtain ⟨v0, vs0, d0, ds0, p0, q0, hargs, rfl, rfl, h0, r0⟩ := trodAll_cons hA
  obtain ⟨rfl, rfl, rfl⟩ := trodAll_nil r0
  obtain rfl : args = #[v0] := by cases args; simp_all
  have hV' : DataW.TrodVars enc Tryd.prog W (fun _ => true) ["loop.example/g00005/impl.sourceSigns", "loop.example/g00005/impl.sourceWords"] gs q := hV
  have hV2 := hV'
  obtain ⟨_, _, _, _, e0, _, _, _, _, _, e1, _, rfl, _⟩ := trodVars_two hV'
  have k0 := h0
  have lt0 : ∀ x ∈ p0, x.block < W.heap.size := by obtain ⟨m, hm⟩ := k0; exact DataW.trod_lt m _ _ _ hm
  obtain ⟨T, hT⟩ := open_text (hval 0 22 v0 rfl rfl) h0
  clear hA0
  refine (sp_walk v0 T W hT (tabs_of hL)).mono fun e W' ⟨he, bel⟩ => ?_
  subst he
  exact ⟨_, rfl, _, _, _, [], _, _, hW', trodAll_mk1 (shut_bool Tryd.underlying4 _), (trodAll_cons_mk (Below.trod spc_laidOut (by kernel_rfl) (of_decide_eq_true (by kernel_rfl)) k0 bel lt0) trodAll_mk0), Below.trodVars spc_laidOut bel (by kernel_rfl) hV2, bel.frame _, fun h => by cases h⟩

set_option maxRecDepth 100000 in
theorem spc_lifted (os : Os) (started : os.Started) (H : Type) (enc : TypeId × Value → H) (F : Stop.Interp) :
    ReturnsInHanded {} Tryd.checked os 3 .any ((OpenSpec.ofChange Rows.fnSpacedSpec).preRow enc Tryd.prog Tryd.f3 Rows.fnSpacedRow.domain false Rows.fnSpacedRow.laid) (((OpenSpec.ofChange Rows.fnSpacedSpec).at F).post enc Tryd.prog Tryd.f3 false true false false) := by
  obtain ⟨places, hx⟩ := spc_reads os enc
  refine returnsInHanded_of_row (C := Tryd.checked) (s := OpenSpec.ofChange Rows.fnSpacedSpec) spc_own started (by kernel_rfl) Tryd.func3
    (witness_row_at (enc := enc) (C := Tryd.checked) false (spcWorld os) #[.slice none 0 0] rfl (by kernel_rfl) (by kernel_rfl) (by kernel_rfl)
      (OpenSpec.preRow_of_cond 8 hx (by kernel_rfl) (fun k hk => by cases hk) (by kernel_rfl) (spc_met os))) ?_
  intro W base args ds gs before hval hW _ _ _ hL _ _
  exact spc_contract H enc W base args ds gs before hval hW hL

theorem spc_said : Rows.FnSpacedSaid :=
  OpenClaim.holds_of_cond 3 Tryd.f3 rfl rfl rfl rfl rfl rfl rfl ⟨rfl, rfl, rfl, rfl, rfl⟩ rfl rfl rfl rfl rfl (by kernel_rfl) Tryd.func3 (by kernel_rfl)
    (of_decide_eq_true (by kernel_rfl)) (by unfold Func.isWrapper; first | (rw [if_pos (by decide +kernel)]; kernel_rfl) | (rw [if_neg (by decide +kernel)]; exact ⟨rfl, rfl⟩))
    (fun os started H enc _ F => by rw [OpenClaim.pre_eq_preRow]; exact spc_lifted os started H enc F)

theorem spc_plain (f : FuncId) (fn : Func) (hf : Tryd.pinned.checked.prog.funcNamed "loop.example/g00005/laws.FnSpaced" = some f) (hfn : Tryd.pinned.checked.prog.funcs[f]? = some fn) :
    false = Tryd.pinned.checked.prog.looks [] ∧ ∀ (j : Nat) t, fn.params[j]? = some t → Tryd.pinned.checked.prog.wantsStandIn t = false := by
  obtain rfl : f = 3 := Option.some.inj ((show Tryd.prog.funcNamed "loop.example/g00005/laws.FnSpaced" = some 3 by kernel_rfl).symm.trans hf) |>.symm
  obtain rfl : fn = Tryd.f3 := (Option.some.inj (Tryd.func3.symm.trans hfn)).symm
  refine ⟨by kernel_rfl, fun j t ht => ?_⟩
  rw [Tryd.params3] at ht
  obtain rfl : t = 22 := by simpa using Array.mem_of_getElem? ht
  exact (show Tryd.prog.wantsStandIn 22 = false by kernel_rfl)

theorem fnSpaced_holds : Rows.FnSpacedCardSaid :=
  Claim7.holds_tied_plain_at .later [] _ _ _ _ spc_said (fun _ h => by cases h) (by kernel_rfl) (fun _ h => by cases h) fnSpaced_row_tie rfl ⟨rfl, rfl⟩ (by kernel_rfl) rfl spc_plain (by kernel_rfl)
#print axioms fnSpaced_holds
end Go.Proofs.YtmdcdapjjodpiaaDoor
