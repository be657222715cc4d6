/- Proved: the law FnExactTermText answers true at every term that can be read as data, and the term and the table of forms read afterwards as before; the tables that the row lists are tied to the program's text (the given tie). No condition. -/
import Derived.Test.YtcagcfhnbphggaaGreatDoorCards
import Derived.Test.YtcagcfhnbphggaaGreatDoorTie
import Derived.Test.YtcagcfhnbphggaaGreatDoorOpen
import Derived.Test.YtcagcfhnbphggaaGreatDoorTOpen
import Derived.WalkKit
import Derived.ProofKit
import Derived.OpenShut
import Derived.OpenVars
import Derived.ShutString
import Derived.ChangeOld
import Derived.Below
import Derived.Deep.DeepHandedRow
import Derived.Lib.LaidTab
namespace Go.Proofs.YtcagcfhnbphggaaGreatDoor
open Go.ChangeShapes Go.WideShapes Go.ChangeAt Go.RowKit

theorem tt_own : ownKnob Tryz.prog.godebug = none := by kernel_rfl
theorem tt_laidOut : laidOutB Tryz.prog = true := by kernel_rfl

/-- The cells of a listed table. -/
def rowCells {H : Type} : DataW H → List Value
  | .agg l => l.flatMap fun | .lit x => [x.value] | .agg m => m.map (fun | .lit x => x.value | _ => undef) | _ => [undef]
  | _ => []
def setRow (row : List Value) : Obj → Obj
  | .cells _ t frozen => .cells row.toArray t frozen
  | o => o
/-- A world for the witness: the settled one, the tables holding what their initialisers lay. -/
noncomputable def ttWorld (os : Os) : World :=
  { World.holding Tryz.prog os ⟨#[], #[], []⟩ with heap := (((((World.holding Tryz.prog os ⟨#[], #[], []⟩).heap.modify 0 (setRow (rowCells (Rows.laid_loop_example_g00005_impl_termForms (H := Unit))))).modify 1 (setRow (rowCells (Rows.laid_internal_strconv_uint64pow10 (H := Unit))))).modify 3 (setRow (rowCells (Rows.laid_math_bits_deBruijn32tab (H := Unit))))).modify 4 (setRow (rowCells (Rows.laid_math_bits_deBruijn64tab (H := Unit))))) }
set_option maxRecDepth 100000 in
theorem tt_met (os : Os) : laidMet Tryz.prog Rows.fnExactTermTextRow.laid ((ttWorld os).forCall (fun _ _ => 0) ⟨#[], #[.agg #[.slice none 0 0]], []⟩).memory :=
  laidMet_of_run' 8 (by kernel_rfl) (by kernel_rfl)
theorem tt_reads (os : Os) {H : Type} (enc : TypeId × Value → H) : ∃ places, DataW.whole enc Tryz.prog ((ttWorld os).forCall (fun _ _ => 0) ⟨#[], #[.agg #[.slice none 0 0]], []⟩).memory Tryz.f3.params.toList Rows.fnExactTermTextSpec.vars false #[Value.agg #[.slice none 0 0]].toList 8 = some ([.agg [.nil]], [Rows.laid_loop_example_g00005_impl_termForms], places) :=
  ⟨MemPlace.row ⟨0, 0, none⟩ 15, by kernel_rfl⟩

set_option maxRecDepth 100000 in
theorem tt_contract (H : Type) (enc : TypeId × Value → H) (W : World) (base : Nat) (args : Array Value) (ds gs : List (DataW H)) (before : List MemPlace)
    (hval : ∀ (j : Nat) t v, Tryz.f3.params[j]? = some t → args[j]? = some v → Value.okWide Tryz.prog W .any base t v)
    (hW : DataW.Whole enc Tryz.prog Tryz.f3.params.toList Rows.fnExactTermTextSpec.vars false W args.toList ds gs before) (hL : laidMetH Tryz.prog Rows.fnExactTermTextRow.laid W) :
    Calls Tryz.prog 3 args W fun e W' => ∃ v, e = .returned v ∧ Rows.fnExactTermTextSpec.post enc Tryz.prog Tryz.f3 false true false false W args v W' := by
  have hW' := hW
  obtain ⟨p, q, hA0, hV, rfl, hfz, hnd⟩ := hW
  have hA : DataW.TrodAll enc Tryz.prog W 0 (fun _ => true) true Tryz.f3.params.toList args.toList ds p := hA0
  rw [Tryz.params3] at hA hval
  obtain ⟨v0, vs0, d0, ds0, p0, q0, hargs, rfl, rfl, h0, r0⟩ := trodAll_cons hA
  obtain ⟨rfl, rfl, rfl⟩ := trodAll_nil r0
  obtain rfl : args = #[v0] := by cases args; simp_all
  have hV' : DataW.TrodVars enc Tryz.prog W (fun _ => true) ["loop.example/g00005/impl.termForms"] gs q := hV
  have hV2 := hV'
  obtain ⟨g, t, cs, fuel, d1, pv, rfl, _, _, _, _, _⟩ := trodVars_one hV'
  have k0 := h0
  have lt0 : ∀ x ∈ p0, x.block < W.heap.size := by obtain ⟨m, hm⟩ := k0; exact DataW.trod_lt m _ _ _ hm
  obtain ⟨v, rfl, ts, hns, hsz⟩ := open_term (hval 0 24 v0 rfl rfl) h0
  clear hA0
  refine (tt_walk v ts W hns hsz (tabs_of hL)).mono fun e W' ⟨he, bel⟩ => ?_
  subst he
  exact ⟨_, rfl, _, _, _, [], _, _, hW', trodAll_mk1 (shut_bool Tryz.underlying4 _), (trodAll_cons_mk (Below.trod tt_laidOut (by kernel_rfl) (of_decide_eq_true (by kernel_rfl)) k0 bel lt0) trodAll_mk0), Below.trodVars tt_laidOut bel (by kernel_rfl) hV2, bel.frame _, fun h => by cases h⟩

set_option maxRecDepth 100000 in
theorem tt_lifted (os : Os) (started : os.Started) (H : Type) (enc : TypeId × Value → H) (F : Stop.Interp) :
    ReturnsInHanded {} Tryz.checked os 3 .any ((OpenSpec.ofChange Rows.fnExactTermTextSpec).preRow enc Tryz.prog Tryz.f3 Rows.fnExactTermTextRow.domain false Rows.fnExactTermTextRow.laid) (((OpenSpec.ofChange Rows.fnExactTermTextSpec).at F).post enc Tryz.prog Tryz.f3 false true false false) := by
  obtain ⟨places, hx⟩ := tt_reads os enc
  refine returnsInHanded_of_row (C := Tryz.checked) (s := OpenSpec.ofChange Rows.fnExactTermTextSpec) tt_own started (by kernel_rfl) Tryz.func3
    (witness_row_at (enc := enc) (C := Tryz.checked) false (ttWorld os) #[.agg #[.slice none 0 0]] rfl (by kernel_rfl) (by kernel_rfl) (by kernel_rfl)
      (OpenSpec.preRow_of_cond 8 hx (by kernel_rfl) (fun k hk => by cases hk) (by kernel_rfl) (tt_met os))) ?_
  intro W base args ds gs before hval hW _ _ _ hL _ _
  exact tt_contract H enc W base args ds gs before hval hW hL

theorem tt_said : Rows.FnExactTermTextSaid :=
  OpenClaim.holds_of_cond 3 Tryz.f3 rfl rfl rfl rfl rfl rfl rfl ⟨rfl, rfl, rfl, rfl, rfl⟩ rfl rfl rfl rfl rfl (by kernel_rfl) Tryz.func3 (by kernel_rfl)
    (of_decide_eq_true (by kernel_rfl)) (by unfold Func.isWrapper; first | (rw [if_pos (by decide +kernel)]; kernel_rfl) | (rw [if_neg (by decide +kernel)]; exact ⟨rfl, rfl⟩))
    (fun os started H enc _ F => by rw [OpenClaim.pre_eq_preRow]; exact tt_lifted os started H enc F)

theorem tt_plain (f : FuncId) (fn : Func) (hf : Tryz.pinned.checked.prog.funcNamed "loop.example/g00005/laws.FnExactTermText" = some f) (hfn : Tryz.pinned.checked.prog.funcs[f]? = some fn) :
    true = Tryz.pinned.checked.prog.looks [] ∧ ∀ (j : Nat) t, fn.params[j]? = some t → Tryz.pinned.checked.prog.wantsStandIn t = false := by
  obtain rfl : f = 3 := Option.some.inj ((show Tryz.prog.funcNamed "loop.example/g00005/laws.FnExactTermText" = some 3 by kernel_rfl).symm.trans hf) |>.symm
  obtain rfl : fn = Tryz.f3 := (Option.some.inj (Tryz.func3.symm.trans hfn)).symm
  refine ⟨by kernel_rfl, fun j t ht => ?_⟩
  rw [Tryz.params3] at ht
  obtain rfl : t = 24 := by simpa using Array.mem_of_getElem? ht
  exact (show Tryz.prog.wantsStandIn 24 = false by kernel_rfl)

theorem fnExactTermText_holds : Rows.FnExactTermTextCardSaid :=
  Claim7.holds_tied_plain_at .later [] _ _ _ _ tt_said (fun _ h => by cases h) (by kernel_rfl) (fun _ h => by cases h) fnExactTermText_row_tie rfl ⟨rfl, rfl⟩ (by kernel_rfl) rfl tt_plain (by kernel_rfl)
#print axioms fnExactTermText_holds
end Go.Proofs.YtcagcfhnbphggaaGreatDoor
