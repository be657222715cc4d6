/- What the specification's DrawLevelPut answers: a level, names and levels, in new memory. -/
import Derived.Test.YtnifepmaijfllaaTwo
import Derived.Test.YtnifepmaijfllaaRdO
import Derived.Test.YtnifepmaijfllaaTTo
import Derived.Test.YtnifepmaijfllaaPutL
import Derived.Test.YtnifepmaijfllaaPutK
import Derived.Test.YtnifepmaijfllaaValI
namespace Go.Proofs.Ytnifepmaijfllaa
open Go.ChangeShapes Go.WideShapes Go.ChangeAt Go.RowKit

/-- A row of levels of the call's own. -/
def LRow (base : Nat) (w : World) (g n c : Nat) (ls : List (List Nd)) : Prop :=
  ls.length = n ∧ ∃ xs, w.ownsRow base 30 1 (.slice (some ⟨g, 0, none⟩) n c) n xs ∧ ∀ i (h : i < ls.length), ∃ gi ci, xs[i]? = some (.slice (some ⟨gi, 0, none⟩) ls[i].length ci) ∧ LvRow w gi ci ls[i]
theorem LRow.lt {base : Nat} {w : World} {g n c : Nat} {ls : List (List Nd)} (h : LRow base w g n c ls) : base ≤ g ∧ g < w.heap.size := by
  obtain ⟨_, xs, h1, _⟩ := h; exact h1.lt g rfl
theorem LRow.keep {base : Nat} {w w' : World} {g n c : Nat} {ls : List (List Nd)} (h : LRow base w g n c ls) (hb : Below w.heap.size w w') : LRow base w' g n c ls := by
  obtain ⟨h0, xs, h1, h2⟩ := h
  refine ⟨h0, xs, row_keep hb h1, fun i hi => ?_⟩
  obtain ⟨gi, ci, h3, h4⟩ := h2 i hi
  exact ⟨gi, ci, h3, h4.keep hb⟩
theorem LRow.rd {base b2 : Nat} {w w' : World} {g n c R : Nat} {ls : List (List Nd)} (h : LRow base w g n c ls) (hr : RdAt b2 w R) (hg : w.grownBy w' (some R)) : LRow base w' g n c ls := by
  obtain ⟨h0, xs, h1, h2⟩ := h
  have hr' := hr
  obtain ⟨a, m, c2, p, hrow, _⟩ := hr'
  refine ⟨h0, xs, h1.kept hg (.inr (by simp [Value.ownBlock]; exact rows_ne h1 hrow (by decide))), fun i hi => ?_⟩
  obtain ⟨gi, ci, h3, h4⟩ := h2 i hi
  exact ⟨gi, ci, h3, h4.rd hr hg⟩
theorem LvRow.row30 {b2 : Nat} {w w' : World} {g cap g2 n c : Nat} {ns : List Nd} {xs : List Value} (h : LvRow w g cap ns) (hr : w.ownsRow b2 30 1 (.slice (some ⟨g2, 0, none⟩) n c) n xs) (hg : w.grownBy w' (some g2)) : LvRow w' g cap ns := by
  obtain ⟨⟨B, ys, h1, h2⟩, h3⟩ := h
  refine ⟨⟨B, ys, h1.kept hg (.inr (by simp [Value.ownBlock]; exact rows_ne h1 hr (by decide))), fun i hi => ?_⟩, h3⟩
  obtain ⟨a, b, kv, c, d, q⟩ := h2 i hi
  exact ⟨a, b, kv, c, d.grown hr (by decide) hg, q⟩
theorem LRow.snoc {base : Nat} {w w' : World} {g n c g2 c2 gi ci : Nat} {ls : List (List Nd)} {l : List Nd} {xs : List Value} (h0 : ls.length = n) (h1 : w.ownsRow base 30 1 (.slice (some ⟨g, 0, none⟩) n c) n xs) (h2 : ∀ i (h : i < ls.length), ∃ gi ci, xs[i]? = some (.slice (some ⟨gi, 0, none⟩) ls[i].length ci) ∧ LvRow w gi ci ls[i]) (hl : LvRow w gi ci l) (hg : w.grownBy w' (some g)) (h4 : w'.ownsRow base 30 1 (.slice (some ⟨g2, 0, none⟩) (n + 1) c2) (n + 1) (xs ++ [.slice (some ⟨gi, 0, none⟩) l.length ci])) : LRow base w' g2 (n + 1) c2 (ls ++ [l]) := by
  have hxl := h1.1
  refine ⟨by simp [h0], _, h4, fun i hi => ?_⟩
  by_cases e : i < ls.length
  · obtain ⟨gj, cj, h5, h6⟩ := h2 i e
    rw [List.getElem_append_left e, List.getElem?_append_left (by omega)]
    exact ⟨gj, cj, h5, h6.row30 h1 hg⟩
  · have e2 : i = ls.length := by simp at hi; omega
    subst e2
    rw [List.getElem_append_right (Nat.le_refl _), List.getElem?_append_right (by omega)]
    simp only [Nat.sub_self, List.getElem_cons_zero]
    exact ⟨gi, ci, by rw [show ls.length - xs.length = 0 by omega]; rfl, hl.row30 h1 hg⟩
theorem LRow.levs {base : Nat} {w : World} {g n c : Nat} {ls : List (List Nd)} (h : LRow base w g n c ls) : LevsAt w (.slice (some ⟨g, 0, none⟩) n c) ls := by
  obtain ⟨h0, xs, h1, h2⟩ := h
  obtain ⟨hc1, hc2⟩ := ownsRow_cap h1
  subst h0
  refine ⟨_, c, rfl, hc1, hc2, fun _ => ⟨g, 0, rfl, fun i hi => ?_⟩⟩
  obtain ⟨gi, ci, h3, h4⟩ := h2 i hi
  exact ⟨_, by rw [Nat.zero_add, h1.cellAt i (by omega)]; exact h3, h4.nodes⟩
theorem LRow.lens {base : Nat} {w : World} {g n c : Nat} {ls : List (List Nd)} (h : LRow base w g n c ls) : ∀ l ∈ ls, LvLens l := fun l hl => by
  obtain ⟨_, xs, _, h2⟩ := h
  obtain ⟨i, hi, rfl⟩ := List.mem_iff_getElem.1 hl
  obtain ⟨_, _, _, h4⟩ := h2 i hi
  exact h4.sz
def uwu : List ByteArray := [⟨#[117]⟩, ⟨#[119]⟩, ⟨#[117]⟩]
/-- What DrawLevelPut answers. -/
def DrOut (w : World) (e : Ending) (w' : World) : Prop :=
  ∃ ga ca gn m gl nl cl na ls, e = .returned (.tuple #[.agg #[.slice (some ⟨ga, 0, none⟩) (List.length na) ca], .slice (some ⟨gn, 0, none⟩) m 3, .slice (some ⟨gl, 0, none⟩) nl cl]) ∧ LvRow w' ga ca na ∧ (1 ≤ m ∧ m ≤ 3) ∧ w'.heap[gn]? = some (.cells #[.string ⟨#[117]⟩, .string ⟨#[119]⟩, .string ⟨#[117]⟩] 9 (0, 0)) ∧ (∃ B, LRow B w' gl nl cl ls) ∧ ls.length ≤ 4 ∧ Below w.heap.size w w'

set_option maxRecDepth 20000 in
set_option maxHeartbeats 4000000 in
theorem drawPut_any (a : Option Addr) (n cap : Nat) (w : World) (h : CodeAt w a n) (hn : n ≤ cap) (hc : cap ≤ maxLen) :
    Calls Try.prog 40 #[.slice a n cap] w (DrOut w) := by
  obtain ⟨i30, hi30, hz30, hs30, hb30⟩ := info_parts Try.info30
  obtain ⟨W, hW⟩ : ∃ W, W = w.alloc (.cells #[.slice none 0 0] 30) := ⟨_, rfl⟩
  have hB : Below w.heap.size w W := by rw [hW]; exact bel_alloc (Below.refl _ _) _
  have hsW : W.heap.size = w.heap.size + 1 := by rw [hW]; simp
  have HK2 := hide (show W.heap[w.heap.size]? = some (.cells #[.slice none 0 0] 30 (0, 0)) by rw [hW]; exact heap_alloc_new w _)
  have HC := hide (show CodeAt W a n from fun h0 => by
    obtain ⟨b, off, h1, h2⟩ := h h0
    refine ⟨b, off, h1, fun j hj => ?_⟩
    obtain ⟨q, h3, h4⟩ := h2 j hj
    exact ⟨q, keep_cell hB h3, h4⟩)
  have HB := hide hB
  clear h hB
  go_enter Try.func40, Try.ntmps40
  go_wp2_with fail
  rw [← hW]
  clear hW
  refine (l1Open_any a n cap _ HC.out hn hc).mono ?_
  rintro e w1 ⟨rfl, hr1, hb1⟩
  rw [hsW] at hr1
  have HR1 := hide hr1
  have HB1 := hide (HB.out.trans (hb1.mono (by omega)))
  have hs1 := hb1.size
  have hlR := hr1.lt
  have HK21 := hide ((hb1.block _ (by omega)).trans HK2.out)
  clear hr1 hb1 HB HK2 HC
  go_wp2_with fail
  refine (l1Any_any (w.heap.size + 1) (w.heap.size + 1) w1 HR1.out).mono ?_
  rintro e w2 ⟨ga, ca, na, rfl, ⟨B2, hB2, hnd2⟩, hl2, hz2, hr2, hg2⟩
  have hs2 := hg2.size
  obtain ⟨W3, hW3⟩ : ∃ W3, W3 = w2.alloc (.cells #[.slice (some ⟨ga, 0, none⟩) na.length ca] 30) := ⟨_, rfl⟩
  have hb3 : Below w2.heap.size w2 W3 := by rw [hW3]; exact bel_alloc (Below.refl _ _) _
  have hs3 : W3.heap.size = w2.heap.size + 1 := by rw [hW3]; simp
  have HLA := hide (show LvRow W3 ga ca na from LvRow.keep ⟨⟨B2, hnd2⟩, hz2⟩ hb3)
  have HR3 := hide (hr2.keep hb3)
  have HK63 := hide (show W3.heap[w2.heap.size]? = some (.cells #[.slice (some ⟨ga, 0, none⟩) na.length ca] 30 (0, 0)) by rw [hW3]; exact heap_alloc_new w2 _)
  have HK23 := hide ((hb3.block w.heap.size (by omega)).trans ((hg2.block w.heap.size (by omega) (by simp)).trans HK21.out))
  have HB3 := hide ((HB1.out.trans (below_of (base := w.heap.size) hg2 (by omega) (by omega))).trans (hb3.mono (by omega)))
  clear hnd2 hr2 hg2 hb3 HR1 HK21 HB1 hl2 hz2 hB2
  go_wp2_with fail
  rw [← hW3]
  clear hW3
  refine (next_any (w.heap.size + 1) (w.heap.size + 1) W3 HR3.out).mono ?_
  rintro e w4 ⟨k, rfl, hk0, hk1, hr4, hg4⟩
  have hs4 := hg4.size
  obtain ⟨m, hm, hml⟩ := tmod_nat (m := 3) hk0 (by omega)
  have hm' : k.tmod 3 = (m : Int) := hm
  obtain ⟨q, hq, hq2⟩ : ∃ q : Nat, k.tdiv 250 = (q : Int) ∧ q < 2 := by
    obtain ⟨kn, rfl⟩ : ∃ kn : Nat, k = kn := ⟨k.toNat, by omega⟩
    exact ⟨kn / 250, by rw [show (250 : Int) = ((250 : Nat) : Int) from rfl, ← Int.ofNat_tdiv], by omega⟩
  obtain ⟨gn, hgn⟩ : ∃ gn, gn = w4.heap.size := ⟨_, rfl⟩
  obtain ⟨W5, hW5⟩ : ∃ W5, W5 = w4.alloc (.cells #[.string ⟨#[117]⟩, .string ⟨#[119]⟩, .string ⟨#[117]⟩] 9) := ⟨_, rfl⟩
  have hb5 : Below w4.heap.size w4 W5 := by rw [hW5]; exact bel_alloc (Below.refl _ _) _
  have hs5 : W5.heap.size = w4.heap.size + 1 := by rw [hW5]; simp
  have HLA5 := hide ((HLA.out.rd HR3.out hg4).keep hb5)
  have HR5 := hide (hr4.keep hb5)
  have HK65 := hide ((hb5.block w2.heap.size (by omega)).trans ((hg4.block w2.heap.size (by omega) (by simp; omega)).trans HK63.out))
  have HK25 := hide ((hb5.block w.heap.size (by omega)).trans ((hg4.block w.heap.size (by omega) (by simp)).trans HK23.out))
  have HKN5 := hide (show W5.heap[gn]? = some (.cells #[.string ⟨#[117]⟩, .string ⟨#[119]⟩, .string ⟨#[117]⟩] 9 (0, 0)) by rw [hW5, hgn]; exact heap_alloc_new w4 _)
  have HB5 := hide ((HB3.out.trans (below_of (base := w.heap.size) hg4 (by omega) (by omega))).trans (hb5.mono (by omega)))
  have hsl : ∀ W : World, (Instr.slice 34 (.slice (some ⟨gn, 0, none⟩) 3 3) none (some (.int .i64 (1 + (m : Int)))) none).run Try.prog W = .ok (.slice (some ⟨gn, 0, none⟩) (1 + m) 3) W := fun W => by
    rw [run_slice_h W 34 (some ⟨gn, 0, none⟩) 3 3 (by kernel_rfl) .i64 (1 + (m : Int)) (by omega) (by omega)]
    have h0 : (1 + (m : Int)).toNat = 1 + m := by omega
    simp [sliced, go_sem, h0]
  have hwm : IntKind.i64.wrap (1 + (m : Int)) = 1 + (m : Int) := by rw [IntKind.wrap_i64]; omega
  have hwm2 : IntKind.i64.wrap (((1 + m : Nat) : Int) + (q : Int)) = ((1 + m : Nat) : Int) + (q : Int) := by rw [IntKind.wrap_i64]; omega
  clear hr4 hg4 hb5 HLA HR3 HK63 HK23 HB3 hm
  go_wp2_with fail
  rw [← hW5]
  rw [← hgn]
  have HL0 : Hid (LRow W5.heap.size (W5.alloc (.cells #[] 30)) W5.heap.size 0 0 []) := ⟨rfl, _, World.ownsRow_lit (e := 30) (size := 1) W5 #[] 0 (Nat.le_refl _) (by unfold maxLen; omega) rfl, fun i h => by simp at h⟩
  have HG0 := hide (((grown_of (bel_alloc (Below.refl W5.heap.size W5) (.cells #[] 30))).but (some (w.heap.size + 1))))
  have HR0 := hide (HR5.out.keep (bel_alloc (Below.refl W5.heap.size W5) (.cells #[] 30)))
  have hB5' : gn + 1 = W5.heap.size := by omega
  rw [hB5']
  obtain ⟨B5, hB5⟩ : ∃ B5, B5 = W5.heap.size := ⟨_, rfl⟩
  rw [← hB5] at HL0 ⊢
  have HBE := hide hB5
  have j1 : w.heap.size + 1 < gn := by omega
  have j2 : gn < B5 := by omega
  have j3 : w.heap.size + 1 < w2.heap.size := by omega
  have j4 : w2.heap.size < B5 := by omega
  clear hW5 hwm hsl hB5 hB5' hgn hs5 hs4 hs3 hs2 hs1 hsW
  go_loopw [9, 10] (fun s i wr => ∃ (j gl c : Nat) (ls : List (List Nd)), j ≤ 1 + m + q ∧ i = .int .i64 j ∧ s = .slice (some ⟨gl, 0, none⟩) j c ∧ Hid (LRow B5 wr gl j c ls) ∧ Hid (RdAt (w.heap.size + 1) wr (w.heap.size + 1)) ∧ Hid (W5.grownBy wr (some (w.heap.size + 1)))) (fun _ i _ => 1 + m + q - (intOf i).toNat)
  case atStart => exact ⟨0, B5, 0, [], by omega, rfl, rfl, HL0, HR0, HG0⟩
  case round =>
    obtain ⟨j, gl, c, ls, hj, rfl, rfl, HL, HR, HG⟩ := hrel
    clear HL0 HR0 HG0
    have hsr : B5 ≤ wr.heap.size := by have h1 := HG.out.size; have h2 := HBE.out; omega
    by_cases hlt : j < 1 + m + q
    · have hlt' : (j : Int) < ((1 + m : Nat) : Int) + (q : Int) := by omega
      go_wp2_with fail
      refine (l1Any_any (w.heap.size + 1) (w.heap.size + 1) wr HR.out).mono ?_
      rintro e w7 ⟨gi, ci, ni, rfl, ⟨B7, hB7, hnd7⟩, hl7, hz7, hr7, hg7⟩
      have hs7 := hg7.size
      have hL7 := HL.out.rd HR.out hg7
      have hgl7 := hL7.lt
      obtain ⟨h0, xs, ho, hx⟩ := hL7
      have hba : Below w7.heap.size w7 (w7.alloc (.cells #[.slice (some ⟨gi, 0, none⟩) ni.length ci] 30)) := bel_alloc (Below.refl _ _) _
      have HO := hide ho
      have HH0 := hide h0
      have HOA := hide (row_keep hba ho)
      have HX := hide (show ∀ i (h : i < ls.length), ∃ gi' ci', xs[i]? = some (.slice (some ⟨gi', 0, none⟩) ls[i].length ci') ∧ LvRow (w7.alloc (.cells #[.slice (some ⟨gi, 0, none⟩) ni.length ci] 30)) gi' ci' ls[i] from fun i hi => by
        obtain ⟨gj, cj, h3, h4⟩ := hx i hi
        exact ⟨gj, cj, h3, h4.keep hba⟩)
      have HLI := hide (show LvRow (w7.alloc (.cells #[.slice (some ⟨gi, 0, none⟩) ni.length ci] 30)) gi ci ni from LvRow.keep ⟨⟨B7, hnd7⟩, hz7⟩ hba)
      have HR7 := hide (hr7.keep hba)
      have HG7 := hide ((HG.out.trans hg7).trans ((grown_of hba).but _))
      have hRne : w.heap.size + 1 ≠ gl := by
        obtain ⟨_, _, _, _, hrow, _⟩ := hr7
        exact fun e => rows_ne ho hrow (by decide) e.symm
      have hj4 : j ≤ 4 := by omega
      clear h0 ho hx hnd7 hr7 hg7 hba hl7 hz7
      go_wp2_with (first
        | (at_builtin
           refine wpList_append_lies _ rfl _ _ 53 rfl B5 30 i30 (.agg #[.slice none 0 0]) 1 24 Try.underlying53 hi30 hz30 hs30 hb30 rfl (by omega) (.slice (some ⟨gl, 0, none⟩) j c) j xs rfl HOA.out ⟨w7.heap.size, 0, none⟩ 1 1 [.slice (some ⟨gi, 0, none⟩) ni.length ci] rfl rfl (cell_one_new _ _ _) (by intro u hu; simp at hu; subst hu; rfl) (by omega) (by unfold maxLen; omega) (by omega) (by simp; omega) (w7.heap.size + 1) (by simp) ?_
           intro g8 c8 w8 hown8 hgrow8 hat8 hlt8)
        | fail)
      have HQ8 := hide (show ∀ p, some gl = some p → W5.heap.size ≤ p from fun p hp => by have hp := Option.some.inj hp; have h1 := HBE.out; have h2 := hgl7.1; omega)
      have HL8 := hide (LRow.snoc HH0.out HOA.out HX.out HLI.out hgrow8 hown8)
      have HR8 := hide (RdAt.grown (g := gl) HR7.out hgrow8 hRne (by omega))
      have HG8 := hide (HG7.out.andThen hgrow8 (fun p hp => .inl (HQ8.out p hp)))
      clear hown8 hgrow8 hat8 hlt8
      go_wp2_with fail
      go_roundw
      case rel => exact ⟨j + 1, g8, c8, ls ++ [ni], by omega, by go_num, rfl, HL8, HR8, HG8⟩
      case measure => simp [intOf]; omega
    · have hlt' : ¬ (j : Int) < ((1 + m : Nat) : Int) + (q : Int) := by omega
      have hg := HG.out
      have hbe := HBE.out
      have k2 := (hg.block w.heap.size (by omega) (by simp)).trans HK25.out
      have k6 := (hg.block w2.heap.size (by omega) (by simp; omega)).trans HK65.out
      have kn := (hg.block gn (by omega) (by simp; omega)).trans HKN5.out
      have x2 : wr.cell? ⟨w.heap.size, 0, none⟩ = some (.slice none 0 0) := by rw [cell_of_row _ _ _ _ _ _ k2]; rfl
      have x2f : wr.frozen? ⟨w.heap.size, 0, none⟩ = false := frozen_of_row k2
      have x6 : wr.cell? ⟨w2.heap.size, 0, none⟩ = some (.slice (some ⟨ga, 0, none⟩) na.length ca) := by rw [cell_of_row _ _ _ _ _ _ k6]; rfl
      have HLAr := hide ((HLA5.out.rd HR5.out hg).set30 k2 (.slice (some ⟨ga, 0, none⟩) na.length ca))
      have HKN := hide (far_block kn (show gn ≠ w.heap.size by omega) (.slice (some ⟨ga, 0, none⟩) na.length ca))
      have HLR := hide (show LRow B5 (wr.setCell ⟨w.heap.size, 0, none⟩ (.slice (some ⟨ga, 0, none⟩) na.length ca)) gl j c ls by
        have hll := HL.out.lt
        obtain ⟨h0, xs, ho, hx⟩ := HL.out
        refine ⟨h0, xs, own_set ho (p := ⟨w.heap.size, 0, none⟩) (by show gl ≠ w.heap.size; omega) _, fun i hi => ?_⟩
        obtain ⟨gj, cj, h3, h4⟩ := hx i hi
        exact ⟨gj, cj, h3, h4.set30 k2 _⟩)
      have HBR := hide ((HB5.out.trans (below_of (base := w.heap.size) hg (by omega) (by omega))).setCell (p := ⟨w.heap.size, 0, none⟩) (Nat.le_refl _) (.slice (some ⟨ga, 0, none⟩) na.length ca))
      have HLL : Hid (ls.length ≤ 4) := by show _ ≤ _; have := HL.out.1; omega
      clear hg k2 k6 kn hbe
      go_wp2_with fail
      refine bodyPost_ret (v := .tuple #[.agg #[.slice (some ⟨ga, 0, none⟩) na.length ca], .slice (some ⟨gn, 0, none⟩) (1 + m) 3, .slice (some ⟨gl, 0, none⟩) j c]) (by simp [results, go_sem, x2]) rfl ?_
      exact ⟨ga, ca, gn, 1 + m, gl, j, c, na, ls, rfl, HLAr.out, ⟨by omega, by omega⟩, HKN.out, ⟨_, HLR.out⟩, HLL.out, HBR.out⟩
end Go.Proofs.Ytnifepmaijfllaa

/- FnLevelPut walked: it answers true. -/
namespace Go.Proofs.Ytnifepmaijfllaa
open Go.ChangeShapes Go.WideShapes Go.ChangeAt Go.RowKit

theorem strs_uwu {w : World} {g m : Nat} (hm : m ≤ 3) (h : w.heap[g]? = some (.cells #[.string ⟨#[117]⟩, .string ⟨#[119]⟩, .string ⟨#[117]⟩] 9 (0, 0))) : StrsAt w (.slice (some ⟨g, 0, none⟩) m 3) (uwu.take m) := by
  have hl : (uwu.take m).length = m := by simp [uwu]; omega
  refine ⟨some ⟨g, 0, none⟩, 3, by rw [hl], by omega, by unfold maxLen; omega, fun _ => ⟨g, 0, rfl, fun j hj => ?_⟩⟩
  have hj3 : j < 3 := by omega
  rw [Nat.zero_add, cell_of_row _ _ _ _ _ _ h]
  have : j = 0 ∨ j = 1 ∨ j = 2 := by omega
  rcases this with rfl | rfl | rfl
  · rw [List.getElem_take]; rfl
  · rw [List.getElem_take]; rfl
  · rw [List.getElem_take]; rfl
theorem strs11' {w : World} {g : Nat} (h : ∀ j (hj : j < names11.length), w.cell? ⟨g, j, none⟩ = some (.string names11[j])) : StrsAt w (.slice (some ⟨g, 0, none⟩) 11 11) names11 :=
  ⟨some ⟨g, 0, none⟩, 11, rfl, by decide, by unfold maxLen; omega, fun _ => ⟨g, 0, rfl, fun j hj => by rw [Nat.zero_add]; exact h j hj⟩⟩
theorem OwnI.ints {base : Nat} {w : World} {g cap : Nat} {st : List Int} (h : OwnI base w g cap st) : IntsAt w (.slice (some ⟨g, 0, none⟩) st.length cap) st := by
  refine ⟨_, cap, rfl, h.cap.1, h.cap.2, fun _ => ⟨g, 0, rfl, fun j hj => ?_⟩⟩
  rw [Nat.zero_add, World.ownsRow.cellAt h j (by omega), List.getElem?_map, List.getElem?_eq_getElem hj]; rfl
theorem StrsAt.cell {w : World} {g n c : Nat} {names : List ByteArray} (h : StrsAt w (.slice (some ⟨g, 0, none⟩) n c) names) (j : Nat) (hj : j < names.length) : w.cell? ⟨g, j, none⟩ = some (.string names[j]) := by
  obtain ⟨a, cap, he, _, _, hc⟩ := h
  injection he with h1 h2 h3
  obtain ⟨b, off, h4, h5⟩ := hc (by omega)
  rw [h4] at h1
  injection h1 with h1
  injection h1 with h6 h7
  have := h5 j hj
  rw [← h6, ← h7, Nat.zero_add] at this
  exact this
theorem LevsAt.cell {w : World} {g n c : Nat} {ls : List (List Nd)} (h : LevsAt w (.slice (some ⟨g, 0, none⟩) n c) ls) (j : Nat) (hj : j < ls.length) : ∃ ua uc, w.cell? ⟨g, j, none⟩ = some (.slice ua ls[j].length uc) ∧ NodesAt w (.slice ua ls[j].length uc) ls[j] := by
  obtain ⟨a, cap, he, _, _, hc⟩ := h
  injection he with h1 h2 h3
  obtain ⟨b, off, h4, h5⟩ := hc (by omega)
  rw [h4] at h1
  injection h1 with h1
  injection h1 with h6 h7
  obtain ⟨u, hu, hn⟩ := h5 j hj
  rw [← h6, ← h7, Nat.zero_add] at hu
  obtain ⟨ua, uc, hue⟩ : ∃ a c, u = .slice a ls[j].length c := by obtain ⟨a, c, h, _⟩ := hn; exact ⟨a, c, h⟩
  subst hue
  exact ⟨ua, uc, hu, hn⟩
theorem value_snd' {t t' : Tr} {own names : List ByteArray} {vals : List Int} : (valueR t own names vals).2 = (valueR t' own names vals).2 := by
  unfold valueR; split <;> rfl
theorem sized_ok {t pt : Tr} (h : sizedR t = some pt) (hok : t.ok) : pt = t ∧ OkTree (t.flat 0) t ∧ lvlB (t.flat 0) = true := by
  unfold sizedR at h
  split at h
  · rename_i hf
    have hl := lvl_flat t hok
    rw [hf] at hl
    have hb := lvl_bounds hl
    exact ⟨(Option.some.inj h).symm, ⟨rfl, hok, (Tr.names_flat t 0 [] hok), (Tr.flat_len t 0).symm, hb.1, hb.2⟩, hl⟩
  · cases h

set_option maxRecDepth 100000 in
set_option maxHeartbeats 8000000 in
theorem put_walk (a : Option Addr) (n cap : Nat) (w : World) (h : CodeAt w a n) (hn : n ≤ cap) (hc : cap ≤ maxLen) :
    Calls Try.prog 11 #[.slice a n cap] w fun e w' => e = .returned (.bool true) ∧ Below w.heap.size w w' := by
  obtain ⟨i3, hi3, hz3, hs3, hb3⟩ := info_parts Try.info3
  have HC := hide h
  clear h
  by_cases hbig : 1048576 < n
  · have d0 : decide ((1048576 : Int) < (n : Int)) = true := by simp; omega
    have hm := hc
    unfold maxLen at hm
    go_enter Try.func11, Try.ntmps11
    go_wp2_with fail
    go_ret
    exact ⟨rfl, Below.refl _ _⟩
  have d0 : decide ((1048576 : Int) < (n : Int)) = false := by simp; omega
  have HCM := hide hc
  unfold maxLen at hc
  go_enter Try.func11, Try.ntmps11
  go_wp2_with fail
  refine (drawPut_any a n cap _ HC.out hn HCM.out).mono ?_
  rintro e w1 ⟨ga, ca, gn, m, gl, nl, cl, na, ls, rfl, hla, ⟨hm1, hm3⟩, hkn, ⟨B1, hlr⟩, hl4, hb1⟩
  obtain ⟨W2, hW2⟩ : ∃ W2, W2 = w1.alloc (.cells #[.slice (some ⟨ga, 0, none⟩) na.length ca] 30) := ⟨_, rfl⟩
  have hbA : Below w1.heap.size w1 W2 := by rw [hW2]; exact bel_alloc (Below.refl _ _) _
  have HA := hide (hla.keep hbA).nodes
  have HZA := hide (show LvLens na from hla.sz)
  have HS := hide ((strs_uwu hm3 hkn).keep hbA)
  have HLV := hide (hlr.levs.keep hbA)
  have HLZ := hide hlr.lens
  have hll : ls.length = nl := hlr.1
  have HBW := hide (bel_trans hb1 hbA)
  have xa : W2.cell? ⟨w1.heap.size, 0, none⟩ = some (.slice (some ⟨ga, 0, none⟩) na.length ca) := by rw [hW2]; simp [go_sem]
  have HNL : Hid ((uwu.take m).length = m) := by show _ = _; simp [uwu]; omega
  have HCW := hide (show CodeAt W2 a n from fun h0 => by
    obtain ⟨b, off, h1, h2⟩ := HC.out h0
    refine ⟨b, off, h1, fun j hj => ?_⟩
    obtain ⟨q, h3, h4⟩ := h2 j hj
    exact ⟨q, keep_cell HBW.out h3, h4⟩)
  clear hla hlr hkn hb1 hbA
  obtain ⟨la, hla⟩ : ∃ la, la = w1.heap.size := ⟨_, rfl⟩
  go_upto_region 4 with fail
  rw [← hW2]
  rw [← hla] at xa ⊢
  clear hW2 hla
  generalize uwu.take m = names at *
  go_wp2_with fail
  have hcallS := specPut_any _ _ _ na names ls W2 HA.out HZA.out HS.out HLV.out HLZ.out (by omega)
  refine hcallS.mono ?_
  clear hcallS
  rintro e w3 ⟨hres, hb3'⟩
  have xa := keep_cell hb3' xa
  have HA := hide (HA.out.keep hb3')
  have HS := hide (HS.out.keep hb3')
  have HLV := hide (HLV.out.keep hb3')
  have HBW := hide (bel_trans HBW.out hb3')
  have HCW := hide (show CodeAt w3 a n from fun h0 => by
    obtain ⟨b, off, h1, h2⟩ := HCW.out h0
    refine ⟨b, off, h1, fun j hj => ?_⟩
    obtain ⟨q, h3, h4⟩ := h2 j hj
    exact ⟨q, keep_cell hb3' h3, h4⟩)
  clear hb3'
  rcases hres with ⟨hbad, hout⟩ | ⟨hgood, t, ts, hT, hTS, hout⟩
  · have hout : e = .returned (.tuple #[.agg #[.slice none 0 0], .int .i64 1]) := hout
    subst hout
    have HBAD := hide hbad
    have hbA : ∀ o, Below w3.heap.size w3 (w3.alloc o) := fun o => bel_alloc (Below.refl _ _) o
    have HBA := hide hbA
    have hlal := lt_cell xa
    clear hbad hbA
    go_wp2_with fail
    refine (implPut_bad _ _ _ na names ls _ (HA.out.keep (HBA.out _)) HZA.out (HS.out.keep (HBA.out _)) (HLV.out.keep (HBA.out _)) HLZ.out HBAD.out).mono ?_
    rintro e w5 ⟨hout, hb5⟩
    have hout : e = .returned (.tuple #[.agg #[.slice none 0 0], .int .i64 1]) := hout
    subst hout
    have HBW := hide (bel_trans (bel_trans HBW.out (HBA.out _)) hb5)
    clear hb5 hlal
    go_wp2_with fail
    go_ret
    exact ⟨rfl, (bel_alloc HBW.out _)⟩
  · have HG := hide hgood
    have HT := hide hT
    have HTS := hide hTS
    have hpok := put_ok names ts hTS.ok t hT.2.1
    have hnl : names.length = ls.length := by
      have := hgood
      unfold namedB at this
      rw [Bool.and_eq_true, Bool.and_eq_true, decide_eq_true_eq] at this
      exact this.2.1
    have hbA : ∀ o, Below w3.heap.size w3 (w3.alloc o) := fun o => bel_alloc (Below.refl _ _) o
    have HBA := hide hbA
    have hlal := lt_cell xa
    clear hgood hbA
    cases hr : sizedR (t.put names ts) with
    | none =>
      rw [hr] at hout
      have hout : e = .returned (.tuple #[.agg #[.slice none 0 0], .int .i64 3]) := hout
      subst hout
      have HR := hide hr
      clear hr hpok hT hTS
      go_wp2_with fail
      refine (implPut_ok _ _ _ na names ls t ts _ (HA.out.keep (HBA.out _)) HZA.out (HS.out.keep (HBA.out _)) (HLV.out.keep (HBA.out _)) HLZ.out HG.out HT.out HTS.out).mono ?_
      rintro e w5 ⟨hout, hb5⟩
      rw [HR.out] at hout
      have hout : e = .returned (.tuple #[.agg #[.slice none 0 0], .int .i64 3]) := hout
      subst hout
      have HBW := hide (bel_trans (bel_trans HBW.out (HBA.out _)) hb5)
      clear hb5 hlal
      go_wp2_with fail
      go_ret
      exact ⟨rfl, (bel_alloc HBW.out _)⟩
    | some pt =>
      obtain ⟨rfl, hOT, hLB⟩ := sized_ok hr hpok
      rw [hr] at hout
      obtain ⟨g3, cap3, rfl, hnd3⟩ := hout
      have HR := hide hr
      have HOT := hide hOT
      have HLB := hide hLB
      have HPZ := hide (flat_le _ 0 hpok)
      have HNL2 := hide hnl
      have HALL := hide (show (∀ l ∈ ls, lvlB l = true) ∧ lvlB na = true by
        have := HG.out
        unfold namedB at this
        rw [Bool.and_eq_true, Bool.and_eq_true] at this
        exact ⟨fun l hl => List.all_eq_true.1 this.2.2 l hl, this.1⟩)
      clear hr hpok hT hTS hnd3 hOT hLB hnl
      go_wp2_with fail
      refine (implPut_ok _ _ _ na names ls t ts _ (HA.out.keep (HBA.out _)) HZA.out (HS.out.keep (HBA.out _)) (HLV.out.keep (HBA.out _)) HLZ.out HG.out HT.out HTS.out).mono ?_
      rintro e w5 ⟨hout, hb5⟩
      rw [HR.out] at hout
      obtain ⟨g5, cap5, rfl, hnd5⟩ := hout
      have hbq := bel_trans (HBA.out (.cells #[.slice (some ⟨g3, 0, none⟩) (t.put names ts).cnt cap3] 30)) hb5
      obtain ⟨W6, hW6⟩ : ∃ W6, W6 = w5.alloc (.cells #[.slice (some ⟨g5, 0, none⟩) (t.put names ts).cnt cap5] 30) := ⟨_, rfl⟩
      have hb6 : Below w5.heap.size w5 W6 := by rw [hW6]; exact bel_alloc (Below.refl _ _) _
      have hbr := bel_trans hbq hb6
      have xa := keep_cell hbr xa
      have xo : W6.cell? ⟨w5.heap.size, 0, none⟩ = some (.slice (some ⟨g5, 0, none⟩) (t.put names ts).cnt cap5) := by rw [hW6]; simp [go_sem]
      have HA := hide (HA.out.keep hbr)
      have HS := hide (HS.out.keep hbr)
      have HLV := hide (HLV.out.keep hbr)
      have HBW := hide (bel_trans HBW.out hbr)
      have HO := hide ((hnd5.nodes (Tr.flat_len _ 0)).keep hb6)
      have HCW := hide (show CodeAt W6 a n from fun h0 => by
        obtain ⟨b, off, h1, h2⟩ := HCW.out h0
        refine ⟨b, off, h1, fun j hj => ?_⟩
        obtain ⟨q, h3, h4⟩ := h2 j hj
        exact ⟨q, keep_cell hbr h3, h4⟩)
      clear hb5 hb6 hbq hbr hnd5 hlal HBA HG
      obtain ⟨lo, hlo⟩ : ∃ lo, lo = w5.heap.size := ⟨_, rfl⟩
      go_upto_region 8 with fail
      rw [← hW6]
      rw [← hlo] at xo ⊢
      clear hW6 hlo
      go_wp2_with fail
      refine (lwValues_any a n cap W6 HCW.out hn (by omega)).mono ?_
      rintro e w7 ⟨g7, gv, cv, vs, rfl, hv11, hvr, hst7, hown7, hb7⟩
      have xa := keep_cell hb7 xa
      have xo := keep_cell hb7 xo
      have HA := hide (HA.out.keep hb7)
      have HS := hide (HS.out.keep hb7)
      have HLV := hide (HLV.out.keep hb7)
      have HO := hide (HO.out.keep hb7)
      have HBW := hide (bel_trans HBW.out hb7)
      have HSA := hide (strs11' hst7)
      have HVV := hide hown7.ints
      have HVC := hide (show ∀ j u, (vs.map (Value.int .i64))[j]? = some u → w7.cell? ⟨gv, j, none⟩ = some u from fun j u hu => by
        have hj : j < vs.length := by
          have := (List.getElem?_eq_some_iff.1 hu).1
          simpa using this
        rw [World.ownsRow.cellAt hown7 j (by omega)]; exact hu)
      have HE := hide (World.ownsRow_lit (base := w7.heap.size) (e := 3) (size := 1) w7 #[] 0 (Nat.le_refl _) (by unfold maxLen; omega) rfl)
      have HV11 := hide hv11
      have hgv := hown7.lt.2
      clear hst7 hown7 hb7 hvr HCW
      rw [hv11] at HVV ⊢
      obtain ⟨B7, hB7⟩ : ∃ B7, B7 = w7.heap.size := ⟨_, rfl⟩
      have HB7 := hide hB7
      rw [← hB7] at hgv HE
      have hvl : (vs.map (Value.int .i64)).length = 11 := by simp [hv11]
      have HVN : Hid (∀ u ∈ vs.map (Value.int .i64), u.oneCell' = true) := by
        show ∀ u ∈ _, _
        intro u hu
        obtain ⟨q, _, rfl⟩ := List.mem_map.1 hu
        rfl
      go_wp2_with (first
        | (at_builtin
           refine wpList_append_lies _ rfl _ _ 35 rfl B7 3 i3 (.int .i64 0) 1 8 Try.underlying35 hi3 hz3 hs3 hb3 rfl (by omega) (.slice (some ⟨w7.heap.size, 0, none⟩) 0 0) 0 [] rfl (by rw [hB7] at HE ⊢; exact HE.out) ⟨gv, 0, none⟩ 11 cv (vs.map (Value.int .i64)) rfl (by rw [hvl]) (fun j u hu => by
             have h1 := HVC.out j u hu
             have h2 : (Addr.add ⟨gv, 0, none⟩ j) = ⟨gv, j, none⟩ := by unfold Addr.add; split <;> simp_all
             rw [h2]
             exact keep_cell (bel_alloc (Below.refl _ _) _) h1) HVN.out (by omega) (by unfold maxLen; omega) (by omega) (by rw [hB7]; simp) (w7.heap.size + 1) (by simp) ?_
           intro g8 c8 w8 hown8 hgrow8 hat8 hlt8)
        | fail)
      have hb8 : Below B7 w7 w8 := by
        rw [hB7]
        exact (bel_alloc (Below.refl w7.heap.size w7) (.cells #[] 3)).grown hgrow8 (by simp) (fun k hk => by
          have hk : some w7.heap.size = some k := hk
          have := Option.some.inj hk; omega)
      have HB8 := hide hb8
      have HO8 := hide (show OwnI B7 w8 g8 c8 vs by unfold OwnI; rw [hv11]; simpa using hown8)
      have hg8 : B7 ≤ g8 := HO8.out.lt.1
      obtain ⟨f, hf⟩ : ∃ f, f = valAt names11 vs := ⟨_, rfl⟩
      have HF := hide hf
      obtain ⟨VS, hVS⟩ : ∃ VS, VS = ts.map (·.weigh f) := ⟨_, rfl⟩
      have HVS := hide hVS
      have HLN : Hid (names.length = m ∧ ls.length = m ∧ ts.length = m ∧ VS.length = m ∧ nl = m) := by
        have hVL : VS.length = ts.length := by rw [hVS]; simp
        have hTL : ls.length = ts.length := HTS.out.1
        have hNL := HNL.out
        have hNL2 := HNL2.out
        exact ⟨by omega, by omega, by omega, by omega, by omega⟩
      have hm0 : IntKind.i64.wrap ((m : Int) - 1) = (m : Int) - 1 := by rw [IntKind.wrap_i64]; omega
      have H11 : Hid (names11.length = 11) := rfl
      clear hown8 hgrow8 hat8 hlt8 hb8 HE HVC HVN hvl hf hVS hB7 hgv hll hl4 hv11
      go_wp2_with fail
      go_loopw [13] (fun i wr => ∃ (j : Nat) (z : Int) (inner : List Int), j ≤ m ∧ z = (j : Int) - 1 ∧ i = .int .i64 z ∧ Hid (OwnI B7 wr g8 c8 inner) ∧ Hid (Inner names11 names VS vs inner j 11) ∧ Hid (Below B7 w7 wr)) (fun i _ => (intOf i + 1).toNat)
      case atStart => exact ⟨m, (m : Int) - 1, vs, by omega, rfl, rfl, HO8, inner_full (by have := HLN.out; omega), HB8⟩
      case round =>
        obtain ⟨j, z, inner, hj, hz, rfl, HOI, HIN, HBR⟩ := hrel
        clear HO8 HB8
        have HBE := hide (show Below w7.heap.size w7 wr by have := HB7.out; rw [← this]; exact HBR.out)
        by_cases hj0 : j = 0
        · subst hj0
          have hz1 : z = -1 := by omega
          subst hz1
          have xa := keep_cell HBE.out xa
          have xo := keep_cell HBE.out xo
          have HI := hide (show IntsAt wr (.slice (some ⟨g8, 0, none⟩) 11 c8) inner by
            have h1 := HOI.out.ints
            have h2 : inner.length = 11 := by have := HIN.out.1; have := HV11.out; omega
            rwa [h2] at h1)
          have HPV := hide (show (valueR (t.put names ts) (namesOf ((t.put names ts).flat 0)) names11 vs).2 = true → (valueR t (namesOf na) names11 inner).2 = true → (valueR (t.put names ts) (namesOf ((t.put names ts).flat 0)) names11 vs).1 = (valueR t (namesOf na) names11 inner).1 from fun p q => put_value HT.out (by have := HLN.out; omega) (by
            have h1 := HIN.out
            rw [HVS.out, HF.out] at h1
            exact h1) p q)
          have HV1 := hide (implValue_any _ _ _ ((t.put names ts).flat 0) names11 vs wr (HO.out.keep HBE.out) HPZ.out (HSA.out.keep HBE.out) (HVV.out.keep HBE.out) (t.put names ts) HLB.out HOT.out)
          have HV2 := hide (show ∀ W, Below wr.heap.size wr W → _ from fun W hb => implValue_any _ _ _ na names11 inner W ((HA.out.keep HBE.out).keep hb) HZA.out ((HSA.out.keep HBE.out).keep hb) (HI.out.keep hb) t HALL.out.2 HT.out)
          have HV3 := hide (show ∀ W, Below wr.heap.size wr W → _ from fun W hb => specValue_any _ _ _ ((t.put names ts).flat 0) names11 vs W ((HO.out.keep HBE.out).keep hb) HPZ.out ((HSA.out.keep HBE.out).keep hb) ((HVV.out.keep HBE.out).keep hb))
          have HBF := hide (bel_trans HBW.out HBE.out)
          clear hz HBE
          obtain ⟨L, hL⟩ : ∃ L, L = (t.put names ts).cnt := ⟨_, rfl⟩
          rw [← hL] at xo HV1 HV3
          clear hL
          go_wp2_with fail
          refine HV1.out.mono ?_
          rintro e w10 ⟨rfl, hb10⟩
          have xa := keep_cell hb10 xa
          have xo := keep_cell hb10 xo
          have HB10 := hide hb10
          clear hb10
          have HV2 := hide (HV2.out w10 HB10.out)
          unfold pairV at HV2 ⊢
          have HV3' := hide (show ∀ W, Below wr.heap.size wr W → Calls Try.prog 25 #[.agg #[.slice (some ⟨g5, 0, none⟩) L cap5], .slice (some ⟨g7, 0, none⟩) 11 11, .slice (some ⟨gv, 0, none⟩) 11 cv] W fun e w' => (∃ x3, e = .returned (.tuple #[.int .i64 x3, .bool (valueR (t.put names ts) (namesOf ((t.put names ts).flat 0)) names11 vs).2])) ∧ Below W.heap.size W w' from fun W hb => (HV3.out W hb).mono fun e w' h => by
            obtain ⟨h1, h2⟩ := h
            refine ⟨?_, h2⟩
            rcases h1 with ⟨h3, _⟩ | ⟨_, t3, _, rfl⟩
            · rw [HLB.out] at h3; cases h3
            · exact ⟨_, by unfold pairV; rw [value_snd' (t' := t.put names ts)]⟩)
          clear HV3
          generalize (valueR (t.put names ts) (namesOf ((t.put names ts).flat 0)) names11 vs).1 = x1 at *
          generalize (valueR (t.put names ts) (namesOf ((t.put names ts).flat 0)) names11 vs).2 = p1 at *
          generalize (valueR t (namesOf na) names11 inner).1 = x2 at *
          generalize (valueR t (namesOf na) names11 inner).2 = p2 at *
          go_wp2_with fail
          refine HV2.out.mono ?_
          rintro e w11 ⟨rfl, hb11⟩
          have xo := keep_cell hb11 xo
          have HB11 := hide (bel_trans HB10.out hb11)
          clear hb11
          go_wp2_with fail
          refine (HV3'.out w11 HB11.out).mono ?_
          rintro e w12 ⟨⟨x3, rfl⟩, hb12⟩
          have HB12 := hide (bel_trans HBF.out (bel_trans HB11.out hb12))
          clear hb12
          cases p1
          · go_wp2_with fail
            go_ret
            exact ⟨rfl, HB12.out⟩
          · cases p2
            · go_wp2_with fail
              go_ret
              exact ⟨rfl, HB12.out⟩
            · have hx : x1 = x2 := by first | exact HPV.out rfl rfl | exact HPV.out trivial trivial
              subst hx
              have hq : (x1 == x1) = true := beq_self_eq_true _
              go_wp2_with fail
              go_ret
              exact ⟨by first | rfl | simp, HB12.out⟩
        · obtain ⟨j', rfl⟩ : ∃ j', j = j' + 1 := ⟨j - 1, by omega⟩
          have hz' : z = (j' : Int) := by omega
          subst hz'
          have hjl : j' < ls.length := by have := HLN.out; omega
          have hjn : j' < names.length := by have := HLN.out; omega
          have hjv : j' < VS.length := by have := HLN.out; omega
          have hjt : j' < ts.length := by have := HLN.out; omega
          obtain ⟨ua, uc, hu, hnu⟩ := (HLV.out.keep HBE.out).cell j' hjl
          have hun := lt_cell hu
          have hjl' : (j' : Int) < (nl : Int) := by have := HLN.out; omega
          have HCV := hide (implValue_any _ _ _ ls[j'] names11 vs wr hnu (HLZ.out _ (List.getElem_mem hjl)) (HSA.out.keep HBE.out) (HVV.out.keep HBE.out) ts[j'] (HALL.out.1 _ (List.getElem_mem hjl)) (HTS.out.2 j' hjl hjt))
          have HSN := hide (HSA.out.keep HBE.out)
          have HVT := hide (show (valueR ts[j'] (namesOf ls[j']) names11 vs).2 = true → (valueR ts[j'] (namesOf ls[j']) names11 vs).1 = VS[j'] from fun h => by
            rw [(value_true h).1, ← HF.out]
            have : VS = ts.map (·.weigh f) := HVS.out
            subst this
            simp)
          clear hnu
          unfold pairV at HCV
          generalize (valueR ts[j'] (namesOf ls[j']) names11 vs).1 = v1 at *
          generalize (valueR ts[j'] (namesOf ls[j']) names11 vs).2 = v2 at *
          generalize ls[j'].length = lj at *
          clear hz hj0
          go_wp2_with fail
          refine HCV.out.mono ?_
          rintro e w9 ⟨rfl, hb9⟩
          have hs9 := hb9.size
          have HOI9 := hide (HOI.out.keep hb9)
          have HB9 := hide (HBR.out.trans (hb9.mono (by have := HBE.out.size; have := HB7.out; omega)))
          clear hb9 HCV HOI HBR HBE
          cases v2
          · have HBF := hide (bel_trans HBW.out (show Below w7.heap.size w7 w9 by have := HB7.out; rw [← this]; exact HB9.out))
            go_wp2_with fail
            go_ret
            exact ⟨rfl, HBF.out⟩
          · have hv1 : v1 = VS[j'] := by first | exact HVT.out rfl | exact HVT.out trivial
            subst hv1
            have HIN0 := hide (inner_next (all := names11) (by have := HIN.out; exact this))
            clear HVT HIN
            go_wp2_with fail
            go_loopw [16] (fun i wr => ∃ (k : Nat) (inner : List Int), k ≤ 11 ∧ i = .int .i64 k ∧ Hid (OwnI B7 wr g8 c8 inner) ∧ Hid (Inner names11 names VS vs inner j' k) ∧ Hid (Below B7 w7 wr)) (fun i _ => 11 - (intOf i).toNat)
            case atStart => exact ⟨0, inner, by omega, rfl, HOI9, HIN0, HB9⟩
            case round =>
              obtain ⟨k, inner2, hk, rfl, HOk, HIk, HBk⟩ := hrel
              clear HOI9 HIN0 HB9 hs9 hu hun
              have HBk' := hide (show Below w7.heap.size w7 wr by have := HB7.out; rw [← this]; exact HBk.out)
              have hI11 : inner2.length = 11 := by have := HIk.out.1; have := HV11.out; omega
              by_cases hlt : k < 11
              · have h11 : k < names11.length := hlt
                have c1 := (HSA.out.keep HBk'.out).cell k h11
                have c2 := (HS.out.keep HBk'.out).cell j' hjn
                have hlt' : (k : Int) < 11 := by omega
                have hjm' : (j' : Int) < (m : Int) := by omega
                have l1 := lt_cell c1
                have l2 := lt_cell c2
                by_cases hs : names[j'] = names11[k]
                · have q : (names11[k].toList == names[j'].toList) = true := by rw [bytes_eq]; simp [hs]
                  have HI2 := hide (inner_yes HIk.out h11 hjn hjv hs)
                  have hst := (World.ownsRow.stored HOk.out k (.int .i64 VS[j'])).1
                  rw [← List.map_set] at hst
                  have HST := hide (show OwnI B7 (wr.setCell ⟨g8, k, none⟩ (.int .i64 VS[j'])) g8 c8 (inner2.set k VS[j']) by unfold OwnI; simpa using hst)
                  have hfz := World.ownsRow.frozenAt HOk.out k
                  have hce := World.ownsRow.cellAt HOk.out k (by omega)
                  rw [List.getElem?_map, List.getElem?_eq_getElem (by omega)] at hce
                  simp only [Option.map_some] at hce
                  have HB2 := hide (HBk.out.setCell (p := ⟨g8, k, none⟩) hg8 (.int .i64 VS[j']))
                  generalize names11[k] = s1 at *
                  generalize names[j'] = s2 at *
                  generalize VS[j'] = vj at *
                  clear hst hs
                  go_wp2_with fail
                  go_region
                  go_wp2_with fail
                  go_roundw
                  case rel => exact ⟨k + 1, inner2.set k vj, by omega, by go_num, HST, HI2, hide HB2.out.drew⟩
                  case measure => simp [intOf]; omega
                · have q : (names11[k].toList == names[j'].toList) = false := by rw [bytes_eq]; simp; exact fun h => hs h.symm
                  have HI2 := hide (inner_no HIk.out h11 hjn hjv hs)
                  generalize names11[k] = s1 at *
                  generalize names[j'] = s2 at *
                  clear hs
                  go_wp2_with fail
                  go_region
                  go_wp2_with fail
                  go_roundw
                  case rel => exact ⟨k + 1, inner2, by omega, by go_num, HOk, HI2, hide HBk.out.drew⟩
                  case measure => simp [intOf]; omega
              · have hk11 : k = 11 := by omega
                subst hk11
                have hwj : IntKind.i64.wrap ((j' : Int) - 1) = (j' : Int) - 1 := by rw [IntKind.wrap_i64]; omega
                go_wp2_with fail
                go_roundw
                case rel => exact ⟨j', (j' : Int) - 1, inner2, by omega, rfl, rfl, HOk, HIk, HBk⟩
                case measure => simp [intOf]
end Go.Proofs.Ytnifepmaijfllaa
