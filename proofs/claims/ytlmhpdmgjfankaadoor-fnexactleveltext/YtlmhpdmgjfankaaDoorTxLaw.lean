/- Proved: the law FnExactLevelText answers true at every level that can be read as data, and the level reads afterwards as before; the library's tables that the row lists are tied to the program's text (the given tie). No condition. -/
import Derived.Test.YtlmhpdmgjfankaaDoorCards
import Derived.Test.YtlmhpdmgjfankaaDoorTie
import Derived.Test.YtlmhpdmgjfankaaDoorTxS
import Derived.Test.YtlmhpdmgjfankaaDoorEq
import Derived.Test.YtlmhpdmgjfankaaDoorOpen
import Derived.WalkKit
import Derived.ProofKit
import Derived.OpenShut
import Derived.ShutString
import Derived.ChangeOld
import Derived.Below
import Derived.Deep.DeepHandedRow
import Derived.Lib.LaidTab
namespace Go.Proofs.YtlmhpdmgjfankaaDoor
open Go.ChangeShapes Go.WideShapes Go.ChangeAt Go.RowKit

theorem tx_own : ownKnob Tryd.prog.godebug = none := by kernel_rfl
theorem tx_laidOut : laidOutB Tryd.prog = true := by kernel_rfl

theorem kids_leT {ns : List Nd} {n : Nat} (h : nsSum ns ≤ n) : ∀ nd ∈ ns, nd.kids.length ≤ n := by
  induction ns with
  | nil => simp
  | cons x ns ih =>
    intro nd hnd
    simp only [nsSum, ndSize] at h
    rcases List.mem_cons.1 hnd with rfl | h2
    · omega
    · exact ih (by omega) nd h2

set_option maxRecDepth 100000 in
set_option maxHeartbeats 2000000 in
theorem text_walk (v : Value) (ns : List Nd) (w : World) (hns : NodesAt w v ns) (hsz : ∀ nd ∈ ns, nd.s.size ≤ maxLen) :
    Calls Tryd.prog 3 #[.agg #[v]] w fun e w' => e = .returned (.bool true) ∧ Below w.heap.size w w' := by
  have HN := hide hns
  have HZ := hide hsz
  obtain ⟨a, cap, rfl, _, _, _⟩ := hns
  clear hsz
  have b0 : Hid (∀ o, Below w.heap.size w (w.alloc o)) := fun o => bel_alloc (Below.refl _ _) o
  by_cases hbig : (1048576 : Int) < (ns.length + nsSum ns : Nat)
  · have HL : Hid (leftOf 1048576 (ns.length + nsSum ns) = -1) := by show leftOf _ _ = _; rw [leftOf, if_pos hbig]
    clear hbig
    go_enter Tryd.func3, Tryd.ntmps3
    go_wp2_with (go_at_call 5; refine (szLevel_any _ ns _ _ (HN.out.keep (b0.out _)) HZ.out (by omega) (by omega)).mono ?_; rintro e w1 ⟨rfl, hb⟩; rw [HL.out])
    go_ret
    exact ⟨rfl, (bel_alloc (Below.refl w.heap.size w) _).trans (hb.mono (by simp))⟩
  · obtain ⟨M, hM⟩ : ∃ M : Int, M = 1048576 - (ns.length + nsSum ns : Nat) := ⟨_, rfl⟩
    have hM0 : 0 ≤ M := by omega
    have HL : Hid (leftOf 1048576 (ns.length + nsSum ns) = M) := by show leftOf _ _ = _; rw [leftOf, if_neg hbig, hM]
    have hlen : ns.length ≤ 1048576 := by omega
    have hkl := kids_leT (show nsSum ns ≤ 1048576 by omega)
    have HKL := hide hkl
    have dM : decide (M < 0) = false := by simp; omega
    clear hbig hM hkl
    go_enter Tryd.func3, Tryd.ntmps3
    go_wp2_with fail
    refine (szLevel_any _ ns _ _ (HN.out.keep (b0.out _)) HZ.out (by omega) (by omega)).mono ?_
    rintro e w1 ⟨rfl, hb1⟩
    rw [HL.out]
    obtain ⟨hc1, hf1⟩ := bcell hb1
    simp only [World.size_alloc] at hc1 hf1
    have hx1 : w1.cell? ⟨w.heap.size, 0, none⟩ = some (.slice a ns.length cap) := by rw [hc1 _ _ (by omega)]; simp [go_sem]
    have hbel1 : Below w.heap.size w w1 := (bel_alloc (Below.refl w.heap.size w) _).trans (hb1.mono (by simp))
    clear hb1 hc1 hf1
    go_wp2_with fail
    refine (toLevel_any _ ns _ (HN.out.keep hbel1) hlen HKL.out).mono ?_
    rintro e w2 ⟨g2, rfl, hn2, hg2, hb2⟩
    have hx2 := keep_cell hb2 hx1
    have hbel2 := hbel1.trans (hb2.mono hbel1.size)
    go_wp2_with fail
    refine (text_both _ ns _ hn2.at HZ.out).mono ?_
    rintro e w3 ⟨⟨r, rfl, hi⟩, hb3⟩
    have HI := hide hi
    clear hi
    have hx3 := keep_cell hb3 hx2
    have hbel3 := hbel2.trans (hb3.mono hbel2.size)
    clear hb2 hb3 hn2 hx1 hx2
    go_wp2_with fail
    refine (toLevel_any _ ns _ (HN.out.keep hbel3) hlen HKL.out).mono ?_
    rintro e w4 ⟨g4, rfl, hn4, hg4, hb4⟩
    have hx4 := keep_cell hb4 hx3
    have hbel4 := hbel3.trans (hb4.mono hbel3.size)
    have H4 := hide hn4.at
    clear hb4 hx3 hn4
    go_wp2_with fail
    refine (HI.out _ _ (H4.out.keep (bel_alloc (Below.refl _ _) _))).mono ?_
    rintro e w5 ⟨rfl, hb5⟩
    obtain ⟨hc5, hf5⟩ := bcell hb5
    simp only [World.size_alloc] at hc5 hf5
    have hy5 : w5.cell? ⟨w4.heap.size, 0, none⟩ = some (.slice (some ⟨g4, 0, none⟩) ns.length ns.length) := by rw [hc5 _ _ (by omega)]; simp [go_sem]
    have hbw5 : Below w4.heap.size w4 w5 := (bel_alloc (Below.refl w4.heap.size w4) _).trans (hb5.mono (by simp))
    have hx5 := keep_cell hbw5 hx4
    have hbel5 := hbel4.trans (hbw5.mono hbel4.size)
    have H5 := hide (H4.out.keep hbw5)
    have HB5 := hide hbel5
    clear hb5 hc5 hf5 hx4 H4 hbw5 hbel1 hbel2 hbel3 hbel4 hbel5
    go_wp2_with fail
    go_region_held3 (fun w' => w'.cell? ⟨w4.heap.size, 0, none⟩ = some (.slice (some ⟨g4, 0, none⟩) ns.length ns.length) ∧ w'.cell? ⟨w.heap.size, 0, none⟩ = some (.slice a ns.length cap))
      (first
        | go_keep
        | (go_split_ands; exact ⟨keep_cell hb7 (by assumption), keep_cell hb7 (by assumption)⟩)
        | (go_split_ands; exact ⟨keep_cell hb6 (by assumption), keep_cell hb6 (by assumption)⟩))
      (first
        | (go_at_call 7; refine (toLevel_any _ ns _ (by exact HN.out.keep HB5.out.drew) hlen HKL.out).mono ?_; rintro e w6 ⟨g6, rfl, hn6, hg6, hb6⟩)
        | (go_at_call 9; refine (eqLevel_any _ _ ns _ (by exact H5.out.keep ((Below.refl w5.heap.size w5).drew.trans hb6)) hn6.at).mono ?_; rintro e w7 ⟨rfl, hb7⟩))
    go_wp2_with fail
    go_ret
    exact ⟨rfl, HB5.out.drew.trans ((hb6.trans (hb7.mono hb6.size)).mono HB5.out.size)⟩

/-- The cells of a listed table. -/
def rowCells {H : Type} : DataW H → Array Value
  | .agg l => (l.map fun | .lit x => x.value | _ => undef).toArray
  | _ => #[]
def setRow (row : Array Value) : Obj → Obj
  | .cells _ t frozen => .cells row t frozen
  | o => o
/-- A world for the witness: the settled one, the tables holding what their initialisers lay. -/
noncomputable def txWorld (os : Os) : World :=
  { World.holding Tryd.prog os ⟨#[], #[], []⟩ with heap := (((World.holding Tryd.prog os ⟨#[], #[], []⟩).heap.modify 0 (setRow (rowCells (Rows.laid_internal_strconv_uint64pow10 (H := Unit))))).modify 1 (setRow (rowCells (Rows.laid_math_bits_deBruijn32tab (H := Unit))))).modify 2 (setRow (rowCells (Rows.laid_math_bits_deBruijn64tab (H := Unit)))) }
set_option maxRecDepth 100000 in
theorem tx_met (os : Os) : laidMet Tryd.prog Rows.fnExactLevelTextRow.laid ((txWorld os).forCall (fun _ _ => 0) ⟨#[], #[.agg #[.slice none 0 0]], []⟩).memory :=
  laidMet_of_run' 8 (by kernel_rfl) (by kernel_rfl)
theorem tx_reads (os : Os) {H : Type} (enc : TypeId × Value → H) : ∃ places, DataW.whole enc Tryd.prog ((txWorld os).forCall (fun _ _ => 0) ⟨#[], #[.agg #[.slice none 0 0]], []⟩).memory Tryd.f3.params.toList Rows.fnExactLevelTextSpec.vars false #[Value.agg #[.slice none 0 0]].toList 8 = some ([.agg [.nil]], [], places) :=
  ⟨[], by kernel_rfl⟩

set_option maxRecDepth 100000 in
theorem tx_contract (H : Type) (enc : TypeId × Value → H) (W : World) (base : Nat) (args : Array Value) (ds gs : List (DataW H)) (before : List MemPlace)
    (hval : ∀ (j : Nat) t v, Tryd.f3.params[j]? = some t → args[j]? = some v → Value.okWide Tryd.prog W .any base t v)
    (hW : DataW.Whole enc Tryd.prog Tryd.f3.params.toList Rows.fnExactLevelTextSpec.vars false W args.toList ds gs before) :
    Calls Tryd.prog 3 args W fun e W' => ∃ v, e = .returned v ∧ Rows.fnExactLevelTextSpec.post enc Tryd.prog Tryd.f3 false true false false W args v W' := by
  have hW' := hW
  obtain ⟨p, q, hA0, hV, rfl, hfz, hnd⟩ := hW
  have hA : DataW.TrodAll enc Tryd.prog W 0 (fun _ => true) true Tryd.f3.params.toList args.toList ds p := hA0
  rw [Tryd.params3] at hA hval
  obtain ⟨v0, vs0, d0, ds0, p0, q0, hargs, rfl, rfl, h0, r0⟩ := trodAll_cons hA
  obtain ⟨rfl, rfl, rfl⟩ := trodAll_nil r0
  obtain rfl : args = #[v0] := by cases args; simp_all
  obtain ⟨rfl, rfl⟩ := trodVars_none hV
  have k0 := h0
  have lt0 : ∀ x ∈ p0, x.block < W.heap.size := by obtain ⟨m, hm⟩ := k0; exact DataW.trod_lt m _ _ _ hm
  obtain ⟨v, rfl, ns, hns, hsz⟩ := open_level (hval 0 24 v0 rfl rfl) h0
  clear hA0
  refine (text_walk v ns W hns hsz).mono fun e W' ⟨he, bel⟩ => ?_
  subst he
  exact ⟨_, rfl, _, _, _, [], _, [], hW', trodAll_mk1 (shut_bool Tryd.underlying4 _), (trodAll_cons_mk (Below.trod tx_laidOut (by kernel_rfl) (of_decide_eq_true (by kernel_rfl)) k0 bel lt0) trodAll_mk0), rfl, bel.frame _, fun h => by cases h⟩

set_option maxRecDepth 100000 in
theorem tx_lifted (os : Os) (started : os.Started) (H : Type) (enc : TypeId × Value → H) (F : Stop.Interp) :
    ReturnsInHanded {} Tryd.checked os 3 .any ((OpenSpec.ofChange Rows.fnExactLevelTextSpec).preRow enc Tryd.prog Tryd.f3 Rows.fnExactLevelTextRow.domain false Rows.fnExactLevelTextRow.laid) (((OpenSpec.ofChange Rows.fnExactLevelTextSpec).at F).post enc Tryd.prog Tryd.f3 false true false false) := by
  obtain ⟨places, hx⟩ := tx_reads os enc
  refine returnsInHanded_of_row (C := Tryd.checked) (s := OpenSpec.ofChange Rows.fnExactLevelTextSpec) tx_own started (by kernel_rfl) Tryd.func3
    (witness_row_at (enc := enc) (C := Tryd.checked) false (txWorld os) #[.agg #[.slice none 0 0]] rfl (by kernel_rfl) (by kernel_rfl) (by kernel_rfl)
      (OpenSpec.preRow_of_cond 8 hx (by kernel_rfl) (fun k hk => by cases hk) (by kernel_rfl) (tx_met os))) ?_
  intro W base args ds gs before hval hW _ _ _ _ _ _
  exact tx_contract H enc W base args ds gs before hval hW

theorem tx_said : Rows.FnExactLevelTextSaid :=
  OpenClaim.holds_of_cond 3 Tryd.f3 rfl rfl rfl rfl rfl rfl rfl ⟨rfl, rfl, rfl, rfl, rfl⟩ rfl rfl rfl rfl rfl (by kernel_rfl) Tryd.func3 (by kernel_rfl)
    (of_decide_eq_true (by kernel_rfl)) (by unfold Func.isWrapper; first | (rw [if_pos (by decide +kernel)]; kernel_rfl) | (rw [if_neg (by decide +kernel)]; exact ⟨rfl, rfl⟩))
    (fun os started H enc _ F => by rw [OpenClaim.pre_eq_preRow]; exact tx_lifted os started H enc F)

theorem tx_plain (f : FuncId) (fn : Func) (hf : Tryd.pinned.checked.prog.funcNamed "loop.example/g00005/laws.FnExactLevelText" = some f) (hfn : Tryd.pinned.checked.prog.funcs[f]? = some fn) :
    true = Tryd.pinned.checked.prog.looks [] ∧ ∀ (j : Nat) t, fn.params[j]? = some t → Tryd.pinned.checked.prog.wantsStandIn t = false := by
  obtain rfl : f = 3 := Option.some.inj ((show Tryd.prog.funcNamed "loop.example/g00005/laws.FnExactLevelText" = some 3 by kernel_rfl).symm.trans hf) |>.symm
  obtain rfl : fn = Tryd.f3 := (Option.some.inj (Tryd.func3.symm.trans hfn)).symm
  refine ⟨by kernel_rfl, fun j t ht => ?_⟩
  rw [Tryd.params3] at ht
  obtain rfl : t = 24 := by simpa using Array.mem_of_getElem? ht
  exact (show Tryd.prog.wantsStandIn 24 = false by kernel_rfl)

theorem fnExactLevelText_holds : Rows.FnExactLevelTextCardSaid :=
  Claim7.holds_tied_plain_at .later [] _ _ _ _ tx_said (fun _ h => by cases h) (by kernel_rfl) (fun _ h => by cases h) fnExactLevelText_row_tie rfl ⟨rfl, rfl⟩ (by kernel_rfl) rfl tx_plain (by kernel_rfl)
#print axioms fnExactLevelText_holds
end Go.Proofs.YtlmhpdmgjfankaaDoor
