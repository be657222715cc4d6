/- Where the specification's l5Read answers something. -/
import Derived.Test.YtpmpooekpeocdaaGreatFfS
namespace Go.Proofs.YtpmpooekpeocdaaGreat
open Go.ChangeShapes Go.WideShapes Go.ChangeAt Go.RowKit

/-- What l5Read answers: something just where the declaration is shaped. -/
def RdQ (A : Bool) (e : Ending) : Prop := ∃ q : Option Addr, e = .returned (.pointer q) ∧ q.isSome = A
theorem l5Read_any (d : Dc) (pv tv vv cv : Value) (w : World) (hz : DcLens d) (hm : DcV d) (hd : DeclAt w pv tv vv cv d) :
    Calls Tryz.prog 37 #[declV d pv tv vv cv] w fun e w' => RdQ (declB d) e ∧ Below w.heap.size w w' :=
  (l5ReadF_any d pv tv vv cv w hz hm hd).mono fun e w' ⟨h, hb⟩ => by
    refine ⟨?_, hb⟩
    rcases h with ⟨ha, he⟩ | ⟨ha, B, _, _, _, _, _, he, _⟩
    · exact ⟨none, he, by rw [ha]; rfl⟩
    · exact ⟨_, he, by rw [ha]; rfl⟩
end Go.Proofs.YtpmpooekpeocdaaGreat

/- What the specification's DeclOk answers. -/
namespace Go.Proofs.YtpmpooekpeocdaaGreat
open Go.ChangeShapes Go.WideShapes Go.ChangeAt Go.RowKit

set_option maxHeartbeats 2000000 in
theorem specDeclOk_any (d : Dc) (pv tv vv cv : Value) (w : World) (hz : DcLens d) (hm : DcV d) (hd : DeclAt w pv tv vv cv d) :
    Calls Tryz.prog 11 #[declV d pv tv vv cv] w fun e w' => e = .returned (.bool (declB d)) ∧ Below w.heap.size w w' := by
  obtain ⟨pa, pc, hpv⟩ : ∃ a c, pv = .slice a d.ps.length c := by obtain ⟨a, c, h, _⟩ := hd.ps; exact ⟨a, c, h⟩
  obtain ⟨ta, tc, htv⟩ := hd.t.form
  obtain ⟨va, vc, hvv⟩ := hd.v.form
  obtain ⟨ca, cc, hcv⟩ := hd.cs.form
  subst hpv htv hvv hcv
  obtain ⟨W, hW⟩ : ∃ W, W = w.alloc (.cells #[.int .i64 d.k, .string d.s, .slice pa d.ps.length pc, .slice ta d.t.length tc, .slice va d.v.length vc, .int .i64 d.f, .slice ca d.cs.length cc] 36) := ⟨_, rfl⟩
  have HBW := hide (show Below w.heap.size w W by rw [hW]; exact bel_alloc (Below.refl _ _) _)
  have h0 : W.heap[w.heap.size]? = some (.cells #[.int .i64 d.k, .string d.s, .slice pa d.ps.length pc, .slice ta d.t.length tc, .slice va d.v.length vc, .int .i64 d.f, .slice ca d.cs.length cc] 36 (0, 0)) := by rw [hW]; exact heap_alloc_new w _
  have c0 : W.cell? ⟨w.heap.size, 0, none⟩ = some (.int .i64 d.k) := by rw [Lib.cell_of_heap h0]; rfl
  have c1 : W.cell? ⟨w.heap.size, 1, none⟩ = some (.string d.s) := by rw [Lib.cell_of_heap h0]; rfl
  have c2 : W.cell? ⟨w.heap.size, 2, none⟩ = some (.slice pa d.ps.length pc) := by rw [Lib.cell_of_heap h0]; rfl
  have c3 : W.cell? ⟨w.heap.size, 3, none⟩ = some (.slice ta d.t.length tc) := by rw [Lib.cell_of_heap h0]; rfl
  have c4 : W.cell? ⟨w.heap.size, 4, none⟩ = some (.slice va d.v.length vc) := by rw [Lib.cell_of_heap h0]; rfl
  have c5 : W.cell? ⟨w.heap.size, 5, none⟩ = some (.int .i64 d.f) := by rw [Lib.cell_of_heap h0]; rfl
  have c6 : W.cell? ⟨w.heap.size, 6, none⟩ = some (.slice ca d.cs.length cc) := by rw [Lib.cell_of_heap h0]; rfl
  have l0 := lt_cell c0
  have HC := hide (l5Read_any d _ _ _ _ W hz hm (hd.keep HBW.out))
  clear hd hz hm h0
  unfold declV at HC ⊢
  go_enter Tryz.func11, Tryz.ntmps11
  go_upto_region 1 with fail
  rw [← hW]
  clear hW
  go_wp2_with fail
  refine HC.out.mono ?_
  rintro e w1 ⟨⟨q, rfl, hq⟩, hb1⟩
  have HB1 := hide (bel_trans HBW.out hb1)
  have HQ := hide hq
  clear hq hb1 c0 c1 c2 c3 c4 c5 c6 l0 HC
  cases q with
  | none =>
    have HN := hide (dnone_none w1)
    go_wp2_with (go_at_call 38; refine HN.out.mono ?_; rintro e w9 ⟨rfl, hw9⟩; have hw9 := hw9.symm; subst hw9)
    go_ret
    exact ⟨by rw [← HQ.out] <;> rfl, HB1.out⟩
  | some a =>
    have HN := hide (dnone_some a w1)
    go_wp2_with (go_at_call 38; refine HN.out.mono ?_; rintro e w9 ⟨rfl, hw9⟩; have hw9 := hw9.symm; subst hw9)
    go_ret
    exact ⟨by rw [← HQ.out] <;> rfl, HB1.out⟩
end Go.Proofs.YtpmpooekpeocdaaGreat
