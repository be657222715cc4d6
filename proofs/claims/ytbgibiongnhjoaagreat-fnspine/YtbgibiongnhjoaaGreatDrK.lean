/- What the specification's DrawSpine answers. -/
import Derived.Test.YtbgibiongnhjoaaGreatDrV
import Derived.Test.YtbgibiongnhjoaaGreatAnyA
import Derived.Test.YtbgibiongnhjoaaGreatPutP
import Derived.Test.YtbgibiongnhjoaaGreatTrA
import Derived.Test.YtbgibiongnhjoaaGreatMkT
namespace Go.Proofs.YtbgibiongnhjoaaGreat
open Go.ChangeShapes Go.WideShapes Go.ChangeAt Go.RowKit

/-- Drawn arguments, one after the other. -/
def spI (A : Tt × Pl) : Nat → Tt × Pl
  | 0 => A
  | j + 1 => (.t2 appH (spI A j).1 (d3 4 4 3 (spI A j).2).1, (d3 4 4 3 (spI A j).2).2)
theorem spI_ok {A : Tt × Pl} (hA : A.1.all drP) : ∀ j, (spI A j).1.all drP ∧ (spI A j).1.cnt ≤ A.1.cnt + 300 * j
  | 0 => ⟨hA, by simp [spI]⟩
  | j + 1 => by
    have h1 := spI_ok hA j
    have h2 := d3_ok 4 4 3 (spI A j).2 (by omega)
    refine ⟨⟨nolv_dr rfl (by decide), h1.1, h2.1⟩, ?_⟩
    simp only [spI, Tt.cnt]
    have := h2.2
    omega
/-- The nodes that DrawSpine draws. -/
def spT (ρ : Pl) : List Td :=
  if ρ.v < 240 then (spI (d3 8 0 3 ρ.n) (ρ.v % 4)).1.flat 0 else anyT (spI (d3 8 0 3 ρ.n) (ρ.v % 4)).2
set_option maxRecDepth 20000 in
set_option maxHeartbeats 8000000 in
theorem drawSpine_any (a : Option Addr) (bs : List UInt8) (cap : Nat) (w : World) (h : CodeAt w a bs) (hn : bs.length ≤ cap) (hc : cap ≤ maxLen) :
    Calls Tryz.prog 42 #[.slice a bs.length cap] w fun e w' => ∃ v, e = .returned (.agg #[v]) ∧ FrT w.heap.size w' v (spT ⟨bs.take 1000, 0⟩) ∧ Below w.heap.size w w' ∧ LvQ (spT ⟨bs.take 1000, 0⟩) := by
  obtain ⟨W1, hW1⟩ : ∃ W1, W1 = w.alloc (.cells #[.slice none 0 0] 28) := ⟨_, rfl⟩
  have hb1 : Below w.heap.size w W1 := by rw [hW1]; exact bel_alloc (Below.refl _ _) _
  have hr1 : W1.heap[w.heap.size]? = some (.cells #[.slice none 0 0] 28 (0, 0)) := by rw [hW1]; exact heap_alloc_new w _
  have l1 : w.heap.size < W1.heap.size := (Array.getElem?_eq_some_iff.1 hr1).1
  have HO := hide (l1Open_any a bs cap W1 (h.keep hb1) hn hc)
  have HR1 := hide hr1
  have HB1 := hide hb1
  obtain ⟨ρ, hρ⟩ : ∃ ρ : Pl, ρ = ⟨bs.take 1000, 0⟩ := ⟨_, rfl⟩
  rw [← hρ] at HO ⊢
  obtain ⟨TS, hTS⟩ : ∃ TS, TS = spT ρ := ⟨_, rfl⟩
  rw [← hTS]
  have HTS := hide hTS
  clear h hn hc hb1 hr1 hρ hTS
  go_enter Tryz.func42, Tryz.ntmps42
  go_upto_region 1 with fail
  rw [← hW1]
  clear hW1
  go_wp2_with fail
  refine HO.out.mono ?_
  rintro e w2 ⟨rfl, hr2, hb2⟩
  have hb2s := hb2.size
  have HR2 : Hid (w2.heap[w.heap.size]? = some (.cells #[.slice none 0 0] 28 (0, 0))) := (hb2.block _ l1).trans HR1.out
  have HB2 := hide (HB1.out.trans (hb2.mono (by omega)))
  have HH2 := hide hr2
  have hRlt := hr2.lt
  obtain ⟨R, hR⟩ : ∃ R, R = W1.heap.size := ⟨_, rfl⟩
  rw [← hR] at HH2 hRlt l1 ⊢
  clear HO HR1 HB1 hr2 hb2 hb2s hR
  clear W1
  go_wp2_with fail
  refine (next_any R R w2 HH2.out).mono ?_
  rintro e w3 ⟨v, rfl, hv0, hv1, hr3, hg3, hve⟩
  have hg3s := hg3.size
  have HR3 : Hid (w3.heap[w.heap.size]? = some (.cells #[.slice none 0 0] 28 (0, 0))) := (hg3.block _ (by omega) (fun e => by have := Option.some.inj e; omega)).trans HR2.out
  have HB3 := hide (HB2.out.grown hg3 (by omega) (fun k hk => by have := Option.some.inj hk; omega))
  have HD : Hid (Calls Tryz.prog 81 #[.pointer (some ⟨R, 0, none⟩), .int .i64 0, .int .i64 3] w3 fun e w' => ∃ p, e = .returned (.pointer (some ⟨p, 0, none⟩)) ∧ SpG (fun b => b ≠ R) w' (d3 8 0 3 ρ.n).1 p ∧ RdAt (d3 8 0 3 ρ.n).2 R w' R ∧ w3.grownBy w' (some R)) := l3Draw_all 8 ρ.n 0 3 R R w3 (by omega) (by omega) (by omega) hr3
  have hok := d3_ok 8 0 3 ρ.n (by omega)
  have HVE := hide hve
  obtain ⟨m, hm, hml, HME⟩ : ∃ m : Nat, v.tmod 4 = (m : Int) ∧ m < 4 ∧ Hid (m = ρ.v % 4) := ⟨ρ.v % 4, by rw [hve]; exact tmod_is (m := 4), Nat.mod_lt _ (by omega), rfl⟩
  have hwm := wrap_nat m (by omega)
  obtain ⟨A, hA⟩ : ∃ A, A = d3 8 0 3 ρ.n := ⟨_, rfl⟩
  have HTA : Hid (TS = if ρ.v < 240 then (spI A m).1.flat 0 else anyT (spI A m).2) := by show _ = _; rw [HTS.out]; unfold spT; rw [hA, HME.out]
  rw [← hA] at HD hok
  have HOK : Hid (∀ j, (spI A j).1.all drP ∧ (spI A j).1.cnt ≤ 19700 + 300 * j) := fun j => ⟨(spI_ok hok.1 j).1, by have := (spI_ok hok.1 j).2; have := hok.2; omega⟩
  clear hr3 hg3 hve hok hA HH2 HR2 HB2 HTS
  go_wp2_with fail
  refine HD.out.mono ?_
  rintro e w4 ⟨p, rfl, hS4, hr4, hg4⟩
  have hg4s := hg4.size
  have HR4 : Hid (w4.heap[w.heap.size]? = some (.cells #[.slice none 0 0] 28 (0, 0))) := (hg4.block _ (by omega) (fun e => by have := Option.some.inj e; omega)).trans HR3.out
  have HB4 := hide (HB3.out.grown hg4 (by omega) (fun k hk => by have := Option.some.inj hk; omega))
  have HS4 : Hid (SpG (fun b => b ≠ R) w4 (spI A 0).1 p) := hS4
  have HH4 : Hid (RdAt (spI A 0).2 R w4 R) := hr4
  clear hS4 hr4 hg4 HR3 HB3 HD
  go_wp2_with fail
  go_loopw [5, 6] (fun t i wr => ∃ (j p : Nat), j ≤ m ∧ i = .int .i64 j ∧ t = .pointer (some ⟨p, 0, none⟩) ∧ Hid (SpG (fun b => b ≠ R) wr (spI A j).1 p) ∧ Hid (RdAt (spI A j).2 R wr R) ∧ Hid (wr.heap[w.heap.size]? = some (.cells #[.slice none 0 0] 28 (0, 0))) ∧ Hid (Below w.heap.size w wr)) (fun _ i _ => m - (intOf i).toNat)
  case atStart => exact ⟨0, p, by omega, rfl, rfl, HS4, HH4, HR4, HB4⟩
  case round =>
    clear HS4 HH4 HR4 HB4
    obtain ⟨j, q, hj, rfl, rfl, HSJ, HHJ, HRJ, HBJ⟩ := hrel
    have hRj := HHJ.out.lt
    by_cases hlt : j < m
    · have hlt' : (j : Int) < (m : Int) := by omega
      have HQ1 := hide (show j + 1 ≤ m from hlt)
      have HD : Hid (Calls Tryz.prog 81 #[.pointer (some ⟨R, 0, none⟩), .int .i64 4, .int .i64 3] wr fun e w' => ∃ p, e = .returned (.pointer (some ⟨p, 0, none⟩)) ∧ SpG (fun b => b ≠ R) w' (d3 4 4 3 (spI A j).2).1 p ∧ RdAt (d3 4 4 3 (spI A j).2).2 R w' R ∧ wr.grownBy w' (some R)) := l3Draw_all 4 (spI A j).2 4 3 R R wr (by omega) (by omega) (by omega) HHJ.out
      go_wp2_with fail
      refine HD.out.mono ?_
      rintro e w5 ⟨p5, rfl, hS5, hr5, hg5⟩
      have hg5s := hg5.size
      have hR5 : w5.heap[w.heap.size]? = some (.cells #[.slice none 0 0] 28 (0, 0)) := (hg5.block _ (by omega) (fun e => by have := Option.some.inj e; omega)).trans HRJ.out
      have HB5 := hide (HBJ.out.grown hg5 (by omega) (fun k hk => by have := Option.some.inj hk; omega))
      have HC5 := hide (l3AppQ_any (Q := fun b => b ≠ R) (spI A j).1 (d3 4 4 3 (spI A j).2).1 q p5 w5 (by show w5.heap.size ≠ R; omega) (HSJ.out.to (Carry.rd HHJ.out hg5)) hS5 (all_mono (fun _ _ hp => hp.1) (HOK.out j).1) (all_mono (fun _ _ hp => hp.1) (d3_ok 4 4 3 _ (by omega)).1))
      have HH5 := hide hr5
      have HR5 := hide hR5
      clear hS5 hr5 hg5 hR5
      go_wp2_with fail
      refine HC5.out.mono ?_
      rintro e w6 ⟨p6, rfl, hS6, hb6⟩
      unfold ptrV
      have hb6s := hb6.size
      have HS6 : Hid (SpG (fun b => b ≠ R) w6 (spI A (j + 1)).1 p6) := hS6
      have HH6 : Hid (RdAt (spI A (j + 1)).2 R w6 R) := HH5.out.keep hb6
      have HR6 : Hid (w6.heap[w.heap.size]? = some (.cells #[.slice none 0 0] 28 (0, 0))) := (hb6.block _ (by omega)).trans HR5.out
      have HB6 := hide (HB5.out.trans (hb6.mono (by omega)))
      clear hS6 hb6
      go_wp2_with fail
      go_roundw
      case rel => exact ⟨j + 1, p6, HQ1.out, by go_num, rfl, HS6, HH6, HR6, HB6⟩
      case measure => have := HQ1.out; simp [intOf]; omega
    · have hlt' : ¬ (j : Int) < (m : Int) := by omega
      have e : j = m := by omega
      subst e
      by_cases hk : v ≥ 240
      · have dk : decide (240 ≤ v) = true := by simp; omega
        have HT2 : Hid (TS = anyT (spI A j).2) := by show _ = _; rw [HTA.out, if_neg (by have := HVE.out; omega)]
        have HC := hide (l3Any_any R R wr HHJ.out)
        go_wp2_with fail
        refine HC.out.mono ?_
        rintro e w7 ⟨v7, rfl, hf7, hb7, hq7⟩
        have HQ7 : Hid (LvQ TS) := by show LvQ TS; rw [HT2.out]; exact hq7
        have hr7 : w7.heap[w.heap.size]? = some (.cells #[.slice none 0 0] 28 (0, 0)) := (hb7.block _ (by omega)).trans HRJ.out
        have c7 : w7.cell? ⟨w.heap.size, 0, none⟩ = some (.slice none 0 0) := by rw [Lib.cell_of_heap hr7]; rfl
        have f7 : w7.frozen? ⟨w.heap.size, 0, none⟩ = false := Lib.frozen_of_heap hr7 0
        have l7 := lt_cell c7
        obtain ⟨a7, cap7, rfl⟩ := hf7.form
        have HF7 := hide hf7
        have HB7 := hide (HBJ.out.trans (hb7.mono (show w.heap.size ≤ R by omega)))
        clear hf7 hb7 hr7 HC hq7
        generalize (anyT (spI A j).2).length = n7 at *
        go_wp2_with fail
        refine bodyPost_ret (v := .agg #[.slice a7 n7 cap7]) (by simp [results, Tryz.results42, go_sem, c7]) rfl ⟨_, rfl, ?_, HB7.out.setCell (p := ⟨_, _, _⟩) (by show w.heap.size ≤ w.heap.size; omega) _, HQ7.out⟩
        rw [HT2.out]
        exact HF7.out.low (by omega) (p := ⟨_, _, _⟩) (by show w.heap.size < _; omega) _
      · have dk : decide (240 ≤ v) = false := by simp; omega
        have HT2 : Hid (TS = (spI A j).1.flat 0) := by show _ = _; rw [HTA.out, if_pos (by have := HVE.out; omega)]
        have HQ7 : Hid (LvQ TS) := by show LvQ TS; rw [HT2.out]; exact lvq_flat (all_mono (fun _ _ hp => hp.2.1) (HOK.out j).1)
        have HC := hide (l3TermQ_any _ (spI A j).1 q wr HSJ.out (all_mono (fun _ _ hp => hp.2.1) (HOK.out j).1) (by have := (HOK.out j).2; omega))
        go_wp2_with fail
        refine HC.out.mono ?_
        rintro e w7 ⟨g7, cap7, rfl, ht7, hg7, hb7⟩
        have hr7 : w7.heap[w.heap.size]? = some (.cells #[.slice none 0 0] 28 (0, 0)) := (hb7.block _ (by omega)).trans HRJ.out
        have c7 : w7.cell? ⟨w.heap.size, 0, none⟩ = some (.slice none 0 0) := by rw [Lib.cell_of_heap hr7]; rfl
        have f7 : w7.frozen? ⟨w.heap.size, 0, none⟩ = false := Lib.frozen_of_heap hr7 0
        have l7 := lt_cell c7
        have hg7l : g7 < w7.heap.size := by obtain ⟨xs, q1, _⟩ := ht7; exact (World.ownsRow.lt q1 g7 rfl).2
        have HF7 : Hid (FrT wr.heap.size w7 (.slice (some ⟨g7, 0, none⟩) ((spI A j).1.flat 0).length cap7) ((spI A j).1.flat 0)) := fun w8 hw8 => nodes_fr ht7 (fun q hq => hw8 q (by simp [Value.ownBlock] at hq; omega) (by simp [Value.ownBlock] at hq; omega)) (fun b hb hl => hw8 b (by omega) hl)
        have HB7 := hide (HBJ.out.trans (hb7.mono (show w.heap.size ≤ wr.heap.size by omega)))
        clear ht7 hb7 hr7 HC
        generalize hF : (spI A j).1.flat 0 = F at *
        clear hF
        go_wp2_with fail
        refine bodyPost_ret (v := .agg #[.slice (some ⟨g7, 0, none⟩) F.length cap7]) (by simp [results, Tryz.results42, go_sem, c7]) rfl ⟨_, rfl, ?_, HB7.out.setCell (p := ⟨_, _, _⟩) (by show w.heap.size ≤ w.heap.size; omega) _, HQ7.out⟩
        rw [HT2.out]
        exact HF7.out.low (by omega) (p := ⟨_, _, _⟩) (by show w.heap.size < _; omega) _
end Go.Proofs.YtbgibiongnhjoaaGreat

/- What is drawn is small. No program is walked here. -/
namespace Go.Proofs.YtbgibiongnhjoaaGreat
open Go.ChangeShapes Go.WideShapes Go.ChangeAt Go.RowKit

def fewP (h : Hd) (_ : Nat) : Prop := h.s.size ≤ 1000 ∧ h.lv.length ≤ 2
theorem getD_size {l : List ByteArray} (h : ∀ s ∈ l, s.size ≤ 1000) (i : Nat) : (l.getD i ⟨#[]⟩).size ≤ 1000 := by
  by_cases e : i < l.length
  · simp only [List.getD_eq_getElem?_getD, List.getElem?_eq_getElem e, Option.getD_some]
    exact h _ (List.getElem_mem e)
  · simp only [List.getD_eq_getElem?_getD, List.getElem?_eq_none (Nat.le_of_not_lt e), Option.getD_none]
    decide
theorem names9_few (i : Nat) : (names9.getD i ⟨#[]⟩).size ≤ 1000 := getD_size (by decide) i
theorem short6_few (i : Nat) : (short6.getD i ⟨#[]⟩).size ≤ 1000 := getD_size (by decide) i
theorem texts6_few (i : Nat) : (texts6.getD i ⟨#[]⟩).size ≤ 1000 := getD_size (by decide) i
theorem varD_few (free k : Nat) : (varD free k).all fewP := by
  unfold varD
  split <;> exact ⟨by show (⟨#[]⟩ : ByteArray).size ≤ 1000; decide, by show ([] : List (List Nd)).length ≤ 2; decide⟩
theorem d3_few : ∀ (d deep free : Nat) (ρ : Pl), (d3 d deep free ρ).1.all fewP
  | 0, deep, free, ρ => by
    simp only [d3]
    exact varD_few free ρ.v
  | d + 1, deep, free, ρ => by
    have ih := d3_few d
    have e0 : (⟨#[]⟩ : ByteArray).size ≤ 1000 := by decide
    have l0 : ([] : List (List Nd)).length ≤ 2 := by decide
    simp only [d3]
    split
    · exact varD_few free ρ.v
    · split
      · exact ⟨e0, by show [_].length ≤ 2; simp⟩
      · split
        · have := lvD_len (ρ.v / 12 % 3) ρ.n
          have h3 : ρ.v / 12 % 3 < 3 := Nat.mod_lt _ (by omega)
          exact ⟨names9_few _, by show (lvD (ρ.v / 12 % 3) ρ.n).1.length ≤ _; omega⟩
        · split
          · exact ⟨⟨e0, l0⟩, ih _ _ _, ih _ _ _⟩
          · split
            · exact ⟨⟨short6_few _, l0⟩, ih _ _ _, ih _ _ _, ih _ _ _⟩
            · split
              · exact ⟨⟨names9_few _, l0⟩, ih _ _ _⟩
              · split
                · exact ⟨e0, l0⟩
                · exact ⟨⟨short6_few _, l0⟩, ih _ _ _, ih _ _ _⟩
theorem spI_few {A : Tt × Pl} (hA : A.1.all fewP) : ∀ j, (spI A j).1.all fewP
  | 0 => hA
  | j + 1 => ⟨⟨by show (⟨#[]⟩ : ByteArray).size ≤ 1000; decide, by show ([] : List (List Nd)).length ≤ 2; decide⟩, spI_few hA j, d3_few _ _ _ _⟩
/-- A node with few levels and kids and a short text. -/
def FewT (td : Td) : Prop := td.s.size ≤ 1000 ∧ td.lv.length ≤ 3 ∧ td.kids.length ≤ 4
theorem few_flat {T : Tt} (h : T.all fewP) : ∀ td ∈ T.flat 0, td.s.size ≤ 1000 ∧ td.lv.length ≤ 2 ∧ td.kids.length ≤ 3 := fun td hm => by
  obtain ⟨h1, h2⟩ := flat_mem T 0 h td hm
  exact ⟨h2.1, h2.2, h1⟩
theorem few_spoilN {td : Td} (h : td.s.size ≤ 1000 ∧ td.lv.length ≤ 2 ∧ td.kids.length ≤ 3) (p v : Nat) (σ : Pl) : FewT (spoilN td p v σ) := by
  obtain ⟨h1, h2, h3⟩ := h
  unfold spoilN FewT
  split
  · exact ⟨h1, by dsimp only; omega, by dsimp only; omega⟩
  · split
    · exact ⟨h1, by dsimp only; omega, by dsimp only; omega⟩
    · split
      · exact ⟨h1, by dsimp only; omega, by dsimp only; omega⟩
      · split
        · exact ⟨texts6_few _, by dsimp only; omega, by dsimp only; omega⟩
        · split
          · exact ⟨h1, by simp; omega, by dsimp only; omega⟩
          · split
            · exact ⟨h1, by dsimp only; omega, by simp; omega⟩
            · split
              · exact ⟨h1, by dsimp only; omega, by simp; omega⟩
              · exact ⟨h1, by dsimp only; omega, by simp; omega⟩
theorem few_any (ρ : Pl) : ∀ td ∈ anyT ρ, FewT td := fun td hm => by
  have hw := few_flat (d3_few 8 0 (ρ.v % 4) ρ.n)
  unfold anyT at hm
  split at hm
  · obtain ⟨h1, h2, h3⟩ := hw td hm
    exact ⟨h1, by omega, by omega⟩
  · unfold spoilT at hm
    rcases List.mem_or_eq_of_mem_set hm with h | rfl
    · obtain ⟨h1, h2, h3⟩ := hw td h
      exact ⟨h1, by omega, by omega⟩
    · refine few_spoilN ?_ _ _ _
      have hl : 0 < ((d3 8 0 (ρ.v % 4) ρ.n).1.flat 0).length := by rw [Tt.flat_len]; exact Tt.cnt_pos _
      have hi := Nat.mod_lt (d3 8 0 (ρ.v % 4) ρ.n).2.v hl
      simp only [List.getD_eq_getElem?_getD, List.getElem?_eq_getElem hi, Option.getD_some]
      exact hw _ (List.getElem_mem hi)
/-- Each node that DrawSpine draws is small. -/
theorem few_spine (ρ : Pl) : ∀ td ∈ spT ρ, FewT td := fun td hm => by
  unfold spT at hm
  split at hm
  · obtain ⟨h1, h2, h3⟩ := few_flat (spI_few (d3_few 8 0 3 ρ.n) _) td hm
    exact ⟨h1, by omega, by omega⟩
  · exact few_any _ td hm
end Go.Proofs.YtbgibiongnhjoaaGreat

/- Sizes of what is drawn. No program is walked here. -/
namespace Go.Proofs.YtbgibiongnhjoaaGreat
open Go.ChangeShapes Go.WideShapes Go.ChangeAt Go.RowKit

theorem kids_getD {ns : List Nd} (h : ∀ nd ∈ ns, nd.kids.length ≤ 2) (i : Nat) : (ns.getD i ⟨0, ⟨#[]⟩, []⟩).kids.length ≤ 2 := by
  by_cases e : i < ns.length
  · simp only [List.getD_eq_getElem?_getD, List.getElem?_eq_getElem e, Option.getD_some]
    exact h _ (List.getElem_mem e)
  · simp only [List.getD_eq_getElem?_getD, List.getElem?_eq_none (Nat.le_of_not_lt e), Option.getD_none]
    simp
theorem any_kids (ρ : Pl) : ∀ nd ∈ anyN ρ, nd.kids.length ≤ 3 := fun nd hm => by
  have hk := Tr.flat_kids (drw 5 0 ρ.n).1 0
  unfold anyN anyM at hm
  split at hm
  · have := hk nd hm; omega
  · split at hm
    · rcases List.mem_or_eq_of_mem_set hm with h | rfl
      · have := hk nd h; omega
      · have := kids_getD hk ((drw 5 0 ρ.n).2.v % ((drw 5 0 ρ.n).1.flat 0).length); dsimp only; omega
    · split at hm
      · rcases List.mem_or_eq_of_mem_set hm with h | rfl
        · have := hk nd h; omega
        · have := kids_getD hk ((drw 5 0 ρ.n).2.v % ((drw 5 0 ρ.n).1.flat 0).length); dsimp only; omega
      · split at hm
        · rcases List.mem_or_eq_of_mem_set hm with h | rfl
          · have := hk nd h; omega
          · have := kids_getD hk ((drw 5 0 ρ.n).2.v % ((drw 5 0 ρ.n).1.flat 0).length); rw [List.length_append]; simp only [List.length_singleton]; omega
        · split at hm
          · have := Tr.flat_kids _ 0 nd hm; omega
          · have := Tr.flat_kids _ 0 nd hm; omega
theorem run_fields (ns : List Nd) : ∀ k st, runTo ns k = some st → ∀ i (h : i < ns.length), i < k → fieldsB ns[i] = true
  | 0, _, _ => fun i _ h => by omega
  | k + 1, st, h => by
    unfold runTo at h
    split at h
    case h_2 => cases h
    rename_i st' nd h1 h2
    unfold stepN at h
    split at h
    · cases h
    rename_i hno
    simp only [not_or, Decidable.not_not] at hno
    obtain ⟨_, _, n3, _⟩ := hno
    intro i hi hik
    by_cases e : i = k
    · subst e
      rw [List.getElem?_eq_getElem hi] at h2
      have e2 := Option.some.inj h2
      rw [e2]
      simpa using n3
    · exact run_fields ns k st' h1 i hi (by omega)
theorem lvl_texts {ns : List Nd} (h : lvlB ns = true) : SmallS ns := by
  intro nd hnd
  obtain ⟨i, hi, rfl⟩ := List.getElem_of_mem hnd
  simp only [lvlB, Bool.and_eq_true] at h
  cases hr : runTo ns ns.length with
  | none => rw [hr] at h; simp at h
  | some st =>
    have hf := run_fields ns ns.length st hr i hi hi
    unfold fieldsB at hf
    split at hf
    · simp only [paramB, shortB, Bool.and_eq_true, decide_eq_true_eq] at hf
      omega
    · rw [empty_of hf]
      decide
theorem nsSum_bound {c : Nat} : ∀ {ns : List Nd}, (∀ nd ∈ ns, ndSize nd ≤ c) → nsSum ns ≤ c * ns.length
  | [], _ => by simp [nsSum]
  | nd :: l, h => by
    have h1 := h nd (by simp)
    have h2 := nsSum_bound (ns := l) (fun x hx => h x (by simp [hx]))
    simp only [nsSum, List.length_cons, Nat.mul_add]
    omega
theorem sumL_bound {α : Type} {f : α → Nat} {c : Nat} : ∀ {l : List α}, (∀ x ∈ l, f x ≤ c) → sumL f l ≤ c * l.length
  | [], _ => by simp [sumL]
  | x :: l, h => by
    have h1 := h x (by simp)
    have h2 := sumL_bound (l := l) (fun y hy => h y (by simp [hy]))
    simp only [sumL, List.length_cons, Nat.mul_add]
    omega
/-- Each level of the nodes is valid, or one that l1Any draws. -/
def LvE (ts : List Td) : Prop := ∀ td ∈ ts, ∀ l ∈ td.lv, lvlB l = true ∨ ∃ σ, l = anyN σ
theorem lve_flat {T : Tt} (h : T.all levP) : LvE (T.flat 0) := fun td hm l hl => .inl ((flat_mem T 0 h td hm).2.1 l hl)
theorem spoilN_lv (td : Td) (p v : Nat) (σ : Pl) : ∀ l ∈ (spoilN td p v σ).lv, l ∈ td.lv ∨ ∃ σ, l = anyN σ := by
  intro l hl
  unfold spoilN at hl
  split at hl
  · exact .inl hl
  · split at hl
    · exact .inl hl
    · split at hl
      · exact .inl hl
      · split at hl
        · exact .inl hl
        · split at hl
          · rcases List.mem_append.1 hl with h | h
            · exact .inl h
            · exact .inr ⟨_, List.mem_singleton.1 h⟩
          · split at hl
            · exact .inl hl
            · split at hl
              · exact .inl hl
              · exact .inl hl
theorem lve_any (ρ : Pl) : LvE (anyT ρ) := fun td hm l hl => by
  have hw := lve_flat (all_mono (fun _ _ hp => hp.2.1) (d3_ok 8 0 (ρ.v % 4) ρ.n (by have := Nat.mod_lt ρ.v (show 0 < 4 by omega); omega)).1)
  unfold anyT at hm
  split at hm
  · exact hw td hm l hl
  · unfold spoilT at hm
    rcases List.mem_or_eq_of_mem_set hm with h | rfl
    · exact hw td h l hl
    · rcases spoilN_lv _ _ _ _ l hl with h | h
      · have hll : 0 < ((d3 8 0 (ρ.v % 4) ρ.n).1.flat 0).length := by rw [Tt.flat_len]; exact Tt.cnt_pos _
        have hi := Nat.mod_lt (d3 8 0 (ρ.v % 4) ρ.n).2.v hll
        simp only [List.getD_eq_getElem?_getD, List.getElem?_eq_getElem hi, Option.getD_some] at h
        exact hw _ (List.getElem_mem hi) l h
      · exact .inr h
theorem lve_spine (ρ : Pl) : LvE (spT ρ) := fun td hm l hl => by
  unfold spT at hm
  split at hm
  · exact lve_flat (all_mono (fun _ _ hp => hp.2.1) (spI_ok (d3_ok 8 0 3 ρ.n (by omega)).1 _).1) td hm l hl
  · exact lve_any _ td hm l hl
/-- What the walks ask of a term's nodes. -/
theorem sz_of {td : Td} (hf : FewT td) (hq : ∀ l ∈ td.lv, lvlB l = true ∨ (l.length ≤ 1000 ∧ SmallS l)) (he : ∀ l ∈ td.lv, lvlB l = true ∨ ∃ σ, l = anyN σ) : TLens td ∧ TSmall td ∧ (spell td.lv).length ≤ 1000000000 := by
  obtain ⟨h1, h2, h3⟩ := hf
  have hl : ∀ l ∈ td.lv, l.length ≤ 1000 ∧ SmallS l ∧ ∀ nd ∈ l, nd.kids.length ≤ 3 := fun l hm => by
    rcases hq l hm with h | ⟨q1, q2⟩
    · obtain ⟨a, b⟩ := lvl_small h
      exact ⟨by omega, lvl_texts h, fun nd hn => by have := b nd hn; omega⟩
    · rcases he l hm with h | ⟨σ, h⟩
      · obtain ⟨a, b⟩ := lvl_small h
        exact ⟨by omega, lvl_texts h, fun nd hn => by have := b nd hn; omega⟩
      · exact ⟨q1, q2, by rw [h]; exact any_kids σ⟩
  refine ⟨⟨by unfold maxLen; omega, fun l hm nd hn => by have := (hl l hm).2.1 nd hn; unfold maxLen; omega⟩, ⟨by omega, fun l hm => ⟨by have := (hl l hm).1; omega, fun nd hn => by have := (hl l hm).2.2 nd hn; omega⟩, by omega⟩, ?_⟩
  have hs := spell_len td.lv
  have hb := sumL_bound (f := lvSize) (c := 1004000) (l := td.lv) (fun l hm => by
    obtain ⟨a, b, c⟩ := hl l hm
    have := nsSum_bound (c := 1003) (ns := l) (fun nd hn => by have := b nd hn; have := c nd hn; unfold ndSize; omega)
    unfold lvSize
    omega)
  have : 1004000 * td.lv.length ≤ 1004000 * 3 := Nat.mul_le_mul_left _ h2
  omega
end Go.Proofs.YtbgibiongnhjoaaGreat
