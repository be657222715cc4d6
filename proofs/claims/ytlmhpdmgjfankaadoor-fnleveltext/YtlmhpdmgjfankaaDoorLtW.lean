/- The walk of the law FnLevelText. -/
import Derived.Test.YtlmhpdmgjfankaaDoorAnyW
import Derived.Test.YtlmhpdmgjfankaaDoorPaM
import Derived.Test.YtlmhpdmgjfankaaDoorTxG
import Derived.Test.YtlmhpdmgjfankaaDoorEq
namespace Go.Proofs.YtlmhpdmgjfankaaDoor
open Go.ChangeShapes Go.WideShapes Go.ChangeAt Go.RowKit

/-- A level of some nodes, in new memory. -/
def LvNew (ns : List Nd) (w : World) (e : Ending) (w' : World) : Prop :=
  ∃ g c, e = .returned (.agg #[.slice (some ⟨g, 0, none⟩) ns.length c]) ∧ NodesAt w' (.slice (some ⟨g, 0, none⟩) ns.length c) ns ∧ SmallS ns ∧ Below w.heap.size w w'

set_option maxHeartbeats 1000000 in
theorem drawLT_any (a : Option Addr) (bs : List UInt8) (cap : Nat) (w : World) (h : CodeAt w a bs) (hn : bs.length ≤ cap) (hc : cap ≤ maxLen) :
    Calls Tryd.prog 10 #[.slice a bs.length cap] w (LvNew (anyN ⟨bs.take 1000, 0⟩) w) := by
  have HO := hide (fun o => l1Open_any a bs cap (w.alloc o) (h.keep (bel_alloc (Below.refl _ _) o)) hn hc)
  clear h
  go_enter Tryd.func10, Tryd.ntmps10
  go_wp2_with fail
  refine (HO.out _).mono ?_
  rintro e w1 ⟨rfl, hr1, hb1⟩
  have hs1 := hb1.size
  simp only [World.size_alloc] at hs1 hr1
  have HX1 := hide ((hb1.block w.heap.size (by simp)).trans (heap_alloc_new w (.cells #[.slice none 0 0] 29)))
  have HB1 := hide ((bel_alloc (Below.refl w.heap.size w) (.cells #[.slice none 0 0] 29)).trans (hb1.mono (by simp)))
  have HR1 := hide hr1
  clear hr1 hb1 HO
  simp only [World.size_alloc]
  go_wp2_with fail
  refine (l1Any_any _ _ _ HR1.out).mono ?_
  rintro e w2 ⟨g, c, ns, rfl, ⟨B, hB, hnd⟩, hlen, hsm, ⟨σ, hr2⟩, hg2, hne⟩
  have hgl := hnd.lt
  have HX2 := hide ((hg2.block w.heap.size (by omega) (by simp)).trans HX1.out)
  have x0 : w2.cell? ⟨w.heap.size, 0, none⟩ = some (.slice none 0 0) := by rw [cell_of_row _ _ _ _ _ _ HX2.out]; rfl
  have xf : w2.frozen? ⟨w.heap.size, 0, none⟩ = false := frozen_of_row HX2.out
  have HB2 := hide (HB1.out.trans (below_of (base := w.heap.size) hg2 (by omega) (by omega)))
  have HNN := hide ((hnd.set (p := ⟨w.heap.size, 0, none⟩) (by show g ≠ w.heap.size; omega) ⟨_, 29, by decide, HX2.out⟩ (.slice (some ⟨g, 0, none⟩) ns.length c)).nodes)
  have HSM := hide hsm
  have HNE := hide hne
  clear hnd hsm hr2 hg2 hne HX1 HB1 HR1 hB hgl
  go_wp2_with fail
  refine bodyPost_ret (v := .agg #[.slice (some ⟨g, 0, none⟩) ns.length c]) (by simp [results, go_sem, x0]) rfl ?_
  rw [← HNE.out]
  exact ⟨g, c, rfl, HNN.out, HSM.out, HB2.out.setCell (p := ⟨_, _, _⟩) (Nat.le_refl _) _⟩

set_option maxHeartbeats 1000000 in
theorem specOk_any (v : Value) (ns : List Nd) (w : World) (hns : NodesAt w v ns) (hsz : ∀ nd ∈ ns, nd.s.size ≤ maxLen) :
    Calls Tryd.prog 11 #[.agg #[v]] w fun e w' => e = .returned (.bool (lvlB ns)) ∧ (lvlB ns = true → ∃ t : Tr, ns = t.flat 0 ∧ t.ok ∧ t.names [] = namesOf ns ∧ t.cnt = ns.length) ∧ Below w.heap.size w w' := by
  have HN : Hid (∀ o, NodesAt (w.alloc o) v ns) := fun o => hns.keep (bel_alloc (Below.refl _ _) o)
  have HZ := hide hsz
  obtain ⟨a, cap, rfl, _, _, _⟩ := hns
  clear hsz
  go_enter Tryd.func11, Tryd.ntmps11
  go_wp2_with fail
  refine (l1Tree_any _ ns _ (HN.out _) HZ.out).mono ?_
  rintro e w1 ⟨(⟨hl, rfl⟩ | ⟨hl, g, t, rfl, htr, hf, hok, hnm, hct⟩), hb⟩
  · have hbel := (bel_alloc (Below.refl w.heap.size w) _).trans (hb.mono (by simp))
    have HL := hide hl
    clear hl
    go_wp2_with (go_at_call 15; refine (none_none _).mono ?_; rintro e w' ⟨rfl, rfl⟩)
    go_ret
    exact ⟨ret_bool HL.out.symm, (fun h => by rw [HL.out] at h; cases h), hbel⟩
  · have hbel := (bel_alloc (Below.refl w.heap.size w) _).trans (hb.mono (by simp))
    have HL := hide hl
    have HT : Hid (∃ t : Tr, ns = t.flat 0 ∧ t.ok ∧ t.names [] = namesOf ns ∧ t.cnt = ns.length) := ⟨t, hf, hok, hnm, hct⟩
    clear hl htr hf hok hnm hct
    go_wp2_with (go_at_call 15; refine (none_some _ _).mono ?_; rintro e w' ⟨rfl, rfl⟩)
    go_ret
    exact ⟨ret_bool HL.out.symm, fun _ => HT.out, hbel⟩

/-- What is read of the text of a valid level. -/
theorem parse_text (ns : List Nd) (t : Tr) (w : World) (hl : lvlB ns = true) (hflat : ns = t.flat 0) (hok : t.ok) (hnm : t.names [] = namesOf ns) (hct : t.cnt = ns.length) :
    Calls Tryd.prog 12 #[.string t.it.text] w fun e w' => (∃ g c, e = .returned (.tuple #[.agg #[.slice (some ⟨g, 0, none⟩) ns.length c], .int .i64 0]) ∧ NodesAt w' (.slice (some ⟨g, 0, none⟩) ns.length c) ns) ∧ Below w.heap.size w w' := by
  have hl2 := hl
  unfold lvlB at hl2
  simp only [Bool.and_eq_true, decide_eq_true_eq] at hl2
  have h64 : t.cnt ≤ 64 := by rw [hct]; exact hl2.1.2
  have h6 : (t.names []).length ≤ 6 := by
    have h3 := hl2.2
    rw [hnm]
    split at h3
    · simp only [Bool.and_eq_true, decide_eq_true_eq] at h3; exact h3.2
    · cases h3
  obtain ⟨h1, h2⟩ := text_reads t hok h64
  have hsp : spF t.it.text.data.toList = some t := h1
  refine (implParse_any t.it.text w (by unfold maxLen; omega)).mono ?_
  rintro e w' ⟨(⟨(h3 | h3), _⟩ | ⟨_, u, h4, h5⟩), hb⟩
  · omega
  · rw [hsp] at h3; cases h3
  · rw [hsp] at h4
    cases h4
    have hsz : sizedR t = some t := by unfold sizedR fitsB; rw [if_pos (by simp; omega)]
    rw [hsz] at h5
    obtain ⟨g, c, rfl, hnd⟩ := h5
    refine ⟨⟨g, c, by rw [hct], ?_⟩, hb⟩
    rw [← hct, hflat]
    exact hnd.nodes (by rw [Tr.flat_len])

set_option maxRecDepth 100000 in
set_option maxHeartbeats 4000000 in
theorem lt_walk (a : Option Addr) (bs : List UInt8) (cap : Nat) (w : World) (h : CodeAt w a bs) (hn : bs.length ≤ cap) (hc : cap ≤ maxLen) :
    Calls Tryd.prog 4 #[.slice a bs.length cap] w fun e w' => e = .returned (.bool true) ∧ Below w.heap.size w w' := by
  have HC := hide h
  have HD : Hid (∀ w', Below w.heap.size w w' → Calls Tryd.prog 10 #[.slice a bs.length cap] w' (LvNew (anyN ⟨bs.take 1000, 0⟩) w')) := fun w' hb => drawLT_any a bs cap w' (HC.out.keep hb) hn hc
  have hc2 := hc
  unfold maxLen at hc2
  obtain ⟨n, hnn⟩ : ∃ n, n = bs.length := ⟨_, rfl⟩
  rw [← hnn] at hn HD ⊢
  clear hnn h hc
  generalize anyN ⟨bs.take 1000, 0⟩ = ns at HD
  by_cases hbig : (1048576 : Int) < n
  · go_enter Tryd.func4, Tryd.ntmps4
    go_wp2_with fail
    go_ret
    exact ⟨rfl, Below.refl _ _⟩
  go_enter Tryd.func4, Tryd.ntmps4
  go_wp2_with fail
  refine (HD.out _ (Below.refl _ _)).mono ?_
  rintro e w1 ⟨g1, c1, rfl, hn1, hsm, hb1⟩
  have HZ : Hid (∀ nd ∈ ns, nd.s.size ≤ maxLen) := fun nd hnd => by have := hsm nd hnd; unfold maxLen; omega
  have hlen : ns.length ≤ maxLen := by obtain ⟨_, _, h1, h2, h3, _⟩ := hn1; cases h1; omega
  clear hsm
  unfold maxLen at hlen
  have HN2 := hide (fun o => hn1.keep (bel_alloc (Below.refl _ _) o))
  have HB1 := hide hb1
  clear hn1 hb1
  go_wp2_with fail
  refine (specOk_any _ ns _ (HN2.out _) HZ.out).mono ?_
  rintro e w2 ⟨rfl, ht, hb2⟩
  have hx2 := keep_cell (b := w1.heap.size) (o := 0) (v := .slice (some ⟨g1, 0, none⟩) ns.length c1) hb2 (by simp [go_sem])
  have HNO := hide ((HN2.out _).keep hb2)
  have HB2 := hide (HB1.out.trans (((bel_alloc (Below.refl w1.heap.size w1) _).trans (hb2.mono (by simp))).mono HB1.out.size))
  have HT := hide ht
  clear ht hb2 HN2
  by_cases hl : lvlB ns = true
  · obtain ⟨t, hf, hok, hnm, hct⟩ := HT.out hl
    have h64 : ns.length ≤ 64 := by
      have hl2 := hl
      unfold lvlB at hl2
      simp only [Bool.and_eq_true, decide_eq_true_eq] at hl2
      exact hl2.1.2
    have HI := hide (implText_any _ ns w2 HNO.out HZ.out t hl hf hok h64)
    have HP := hide (fun W => parse_text ns t W hl hf hok hnm hct)
    rw [hl]
    clear hl hf hok hnm hct HT
    go_wp2_with fail
    refine HI.out.mono ?_
    rintro e w3 ⟨rfl, hb3⟩
    have HB3 := hide (bel_trans HB2.out hb3)
    clear hb3 HI hx2
    go_wp2_with fail
    refine (HP.out _).mono ?_
    rintro e w4 ⟨⟨g4, c4, rfl, hn4⟩, hb4⟩
    have HB4 := hide (bel_trans HB3.out hb4)
    have HN4 := hide hn4
    clear hn4 hb4 HP
    go_wp2_with fail
    have HBW := hide (fun o => HB4.out.trans ((bel_alloc (Below.refl w4.heap.size w4) o).mono HB4.out.size))
    have HNW := hide (fun o => HN4.out.keep (bel_alloc (Below.refl w4.heap.size w4) o))
    go_region_held3 (fun w' => w'.cell? ⟨w4.heap.size, 0, none⟩ = some (.slice (some ⟨g4, 0, none⟩) ns.length c4))
      (first
        | go_keep
        | exact keep_cell hb6 (by assumption)
        | exact keep_cell hb5 (by assumption)
        | fail)
      (first
        | (go_at_call 10; refine (HD.out _ (by exact (HBW.out _).drew)).mono ?_; rintro e w5 ⟨g5, c5, rfl, hn5, -, hb5⟩)
        | (go_at_call 9; refine (eqLevel_any _ _ ns _ (by exact (HNW.out _).keep ((Below.refl _ _).drew.trans hb5)) hn5).mono ?_; rintro e w6 ⟨rfl, hb6⟩)
        | fail)
    all_goals
      go_wp2_with fail
      go_ret
      exact ⟨rfl, bel_trans ((HBW.out _).drew.trans (hb5.mono (HBW.out _).size)) hb6⟩
  · have hl0 : lvlB ns = false := by simpa using hl
    have HI := hide (implText_bad _ ns w2 HNO.out HZ.out hl0)
    rw [hl0]
    clear hl hl0 HT
    go_wp2_with (first | (go_at_call 8; refine HI.out.mono ?_; rintro e w3 ⟨rfl, hb3⟩) | fail)
    go_ret
    exact ⟨rfl, bel_trans HB2.out hb3⟩
end Go.Proofs.YtlmhpdmgjfankaaDoor
