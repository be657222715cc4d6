/- What the program's termFieldsOk answers: whether a node's fields are as they should be. -/
import Derived.Test.YtbgibiongnhjoaaGreatTMk
import Derived.Test.YtbgibiongnhjoaaGreatTQ
import Derived.Test.YtbgibiongnhjoaaGreatLwH
import Derived.Test.YtbgibiongnhjoaaGreatTSpC
namespace Go.Proofs.YtbgibiongnhjoaaGreat
open Go.ChangeShapes Go.WideShapes Go.ChangeAt Go.RowKit

set_option maxHeartbeats 2000000 in
theorem termFieldsOk_any (td : Td) (lv kv : Value) (w : World) (hl : LevsAt w lv td.lv) (hk : IntsAt w kv td.kids) (hz : TLens td) :
    Calls Tryz.prog 146 #[.agg #[.int .i64 td.k, .int .i64 td.n, .int .i64 td.m, .string td.s, lv, kv]] w fun e w' => e = .returned (.bool (tfieldsB nameB td)) ∧ Below w.heap.size w w' := by
  have HL : Hid (∀ o w', Below (w.heap.size + 1) (w.alloc o) w' → LevsAt w' lv td.lv) := fun o w' hb => hl.keep ((bel_alloc (Below.refl _ _) o).trans (hb.mono (by simp)))
  obtain ⟨hz1, hz2⟩ := hz
  have HZ2 := hide hz2
  obtain ⟨la, lc, rfl, _, _, _⟩ := hl
  obtain ⟨ka, kc, rfl, _, _, _⟩ := hk
  clear hz2
  have HF : Hid (tfieldsB nameB td = (decide (0 ≤ td.n) && decide (td.n ≤ gN td.k) && (decide (0 ≤ td.m) && decide (td.m ≤ gM td.k)) && tnameB nameB td && tlevB td)) := rfl
  rw [HF.out]
  haveI := bel_ne (w.heap.size + 1) (w.alloc (.cells #[.int .i64 td.k, .int .i64 td.n, .int .i64 td.m, .string td.s, .slice la td.lv.length lc, .slice ka td.kids.length kc] 67))
  have c0 : ∀ p : Bel (w.heap.size + 1) (w.alloc (.cells #[.int .i64 td.k, .int .i64 td.n, .int .i64 td.m, .string td.s, .slice la td.lv.length lc, .slice ka td.kids.length kc] 67)), p.w'.cell? ⟨w.heap.size, 0, none⟩ = some (.int .i64 td.k) := fun p => p.cell (by simp) (by simp [go_sem])
  have c1 : ∀ p : Bel (w.heap.size + 1) (w.alloc (.cells #[.int .i64 td.k, .int .i64 td.n, .int .i64 td.m, .string td.s, .slice la td.lv.length lc, .slice ka td.kids.length kc] 67)), p.w'.cell? ⟨w.heap.size, 1, none⟩ = some (.int .i64 td.n) := fun p => p.cell (by simp) (by simp [go_sem])
  have c2 : ∀ p : Bel (w.heap.size + 1) (w.alloc (.cells #[.int .i64 td.k, .int .i64 td.n, .int .i64 td.m, .string td.s, .slice la td.lv.length lc, .slice ka td.kids.length kc] 67)), p.w'.cell? ⟨w.heap.size, 2, none⟩ = some (.int .i64 td.m) := fun p => p.cell (by simp) (by simp [go_sem])
  have c3 : ∀ p : Bel (w.heap.size + 1) (w.alloc (.cells #[.int .i64 td.k, .int .i64 td.n, .int .i64 td.m, .string td.s, .slice la td.lv.length lc, .slice ka td.kids.length kc] 67)), p.w'.cell? ⟨w.heap.size, 3, none⟩ = some (.string td.s) := fun p => p.cell (by simp) (by simp [go_sem])
  have c4 : ∀ p : Bel (w.heap.size + 1) (w.alloc (.cells #[.int .i64 td.k, .int .i64 td.n, .int .i64 td.m, .string td.s, .slice la td.lv.length lc, .slice ka td.kids.length kc] 67)), p.w'.cell? ⟨w.heap.size, 4, none⟩ = some (.slice la td.lv.length lc) := fun p => p.cell (by simp) (by simp [go_sem])
  have c5 : ∀ p : Bel (w.heap.size + 1) (w.alloc (.cells #[.int .i64 td.k, .int .i64 td.n, .int .i64 td.m, .string td.s, .slice la td.lv.length lc, .slice ka td.kids.length kc] 67)), p.w'.cell? ⟨w.heap.size, 5, none⟩ = some (.slice ka td.kids.length kc) := fun p => p.cell (by simp) (by simp [go_sem])
  cases d0 : decide (0 ≤ td.n)
  · repeat (first | simp only [Bool.false_and] | simp only [Bool.and_false] | simp only [Bool.true_and] | simp only [Bool.and_true])
    go_enter Tryz.func146, Tryz.ntmps146
    go_wp2_with fail
    refine wp_region_bel (w.heap.size + 1) (by kernel_rfl) (by kernel_rfl) ?_
    repeat (quiet_step (first
      | (go_at_call 185; exact calls_bel_same (greatestNumber_any _ _))
      | (go_at_call 186; exact calls_bel_same (greatestMode_any _ _))
      | (go_at_call 187; exact calls_bel (by simp) (termNameOk_any td _ _ _ _ _ _ _ hz1))
      | (go_at_call 188; exact calls_bel (by simp) (termLevelsOk_any td _ _ _ _ _ (HL.out _ _ (Bel.h _)) HZ2.out))))
    refine wpQuiet_nil ?_
    intro _ hw'
    obtain ⟨p, hw2⟩ := hw'
    subst hw2
    go_wp2_with fail
    go_ret
    exact ⟨rfl, (bel_alloc (Below.refl _ _) _).trans (p.h.mono (by omega))⟩
  cases d1 : decide (td.n ≤ gN td.k)
  · repeat (first | simp only [Bool.false_and] | simp only [Bool.and_false] | simp only [Bool.true_and] | simp only [Bool.and_true])
    go_enter Tryz.func146, Tryz.ntmps146
    go_wp2_with fail
    refine wp_region_bel (w.heap.size + 1) (by kernel_rfl) (by kernel_rfl) ?_
    repeat (quiet_step (first
      | (go_at_call 185; exact calls_bel_same (greatestNumber_any _ _))
      | (go_at_call 186; exact calls_bel_same (greatestMode_any _ _))
      | (go_at_call 187; exact calls_bel (by simp) (termNameOk_any td _ _ _ _ _ _ _ hz1))
      | (go_at_call 188; exact calls_bel (by simp) (termLevelsOk_any td _ _ _ _ _ (HL.out _ _ (Bel.h _)) HZ2.out))))
    refine wpQuiet_nil ?_
    intro _ hw'
    obtain ⟨p, hw2⟩ := hw'
    subst hw2
    go_wp2_with fail
    go_ret
    exact ⟨rfl, (bel_alloc (Below.refl _ _) _).trans (p.h.mono (by omega))⟩
  cases d2 : decide (0 ≤ td.m)
  · repeat (first | simp only [Bool.false_and] | simp only [Bool.and_false] | simp only [Bool.true_and] | simp only [Bool.and_true])
    go_enter Tryz.func146, Tryz.ntmps146
    go_wp2_with fail
    refine wp_region_bel (w.heap.size + 1) (by kernel_rfl) (by kernel_rfl) ?_
    repeat (quiet_step (first
      | (go_at_call 185; exact calls_bel_same (greatestNumber_any _ _))
      | (go_at_call 186; exact calls_bel_same (greatestMode_any _ _))
      | (go_at_call 187; exact calls_bel (by simp) (termNameOk_any td _ _ _ _ _ _ _ hz1))
      | (go_at_call 188; exact calls_bel (by simp) (termLevelsOk_any td _ _ _ _ _ (HL.out _ _ (Bel.h _)) HZ2.out))))
    refine wpQuiet_nil ?_
    intro _ hw'
    obtain ⟨p, hw2⟩ := hw'
    subst hw2
    go_wp2_with fail
    go_ret
    exact ⟨rfl, (bel_alloc (Below.refl _ _) _).trans (p.h.mono (by omega))⟩
  cases d3 : decide (td.m ≤ gM td.k)
  · repeat (first | simp only [Bool.false_and] | simp only [Bool.and_false] | simp only [Bool.true_and] | simp only [Bool.and_true])
    go_enter Tryz.func146, Tryz.ntmps146
    go_wp2_with fail
    refine wp_region_bel (w.heap.size + 1) (by kernel_rfl) (by kernel_rfl) ?_
    repeat (quiet_step (first
      | (go_at_call 185; exact calls_bel_same (greatestNumber_any _ _))
      | (go_at_call 186; exact calls_bel_same (greatestMode_any _ _))
      | (go_at_call 187; exact calls_bel (by simp) (termNameOk_any td _ _ _ _ _ _ _ hz1))
      | (go_at_call 188; exact calls_bel (by simp) (termLevelsOk_any td _ _ _ _ _ (HL.out _ _ (Bel.h _)) HZ2.out))))
    refine wpQuiet_nil ?_
    intro _ hw'
    obtain ⟨p, hw2⟩ := hw'
    subst hw2
    go_wp2_with fail
    go_ret
    exact ⟨rfl, (bel_alloc (Below.refl _ _) _).trans (p.h.mono (by omega))⟩
  cases d4 : tnameB nameB td
  · repeat (first | simp only [Bool.false_and] | simp only [Bool.and_false] | simp only [Bool.true_and] | simp only [Bool.and_true])
    go_enter Tryz.func146, Tryz.ntmps146
    go_wp2_with fail
    refine wp_region_bel (w.heap.size + 1) (by kernel_rfl) (by kernel_rfl) ?_
    repeat (quiet_step (first
      | (go_at_call 185; exact calls_bel_same (greatestNumber_any _ _))
      | (go_at_call 186; exact calls_bel_same (greatestMode_any _ _))
      | (go_at_call 187; exact calls_bel (by simp) (termNameOk_any td _ _ _ _ _ _ _ hz1))
      | (go_at_call 188; exact calls_bel (by simp) (termLevelsOk_any td _ _ _ _ _ (HL.out _ _ (Bel.h _)) HZ2.out))))
    refine wpQuiet_nil ?_
    intro _ hw'
    obtain ⟨p, hw2⟩ := hw'
    subst hw2
    go_wp2_with fail
    go_ret
    exact ⟨rfl, (bel_alloc (Below.refl _ _) _).trans (p.h.mono (by omega))⟩
  repeat (first | simp only [Bool.false_and] | simp only [Bool.and_false] | simp only [Bool.true_and] | simp only [Bool.and_true])
  go_enter Tryz.func146, Tryz.ntmps146
  go_wp2_with fail
  refine wp_region_bel (w.heap.size + 1) (by kernel_rfl) (by kernel_rfl) ?_
  repeat (quiet_step (first
    | (go_at_call 185; exact calls_bel_same (greatestNumber_any _ _))
    | (go_at_call 186; exact calls_bel_same (greatestMode_any _ _))
    | (go_at_call 187; exact calls_bel (by simp) (termNameOk_any td _ _ _ _ _ _ _ hz1))
    | (go_at_call 188; exact calls_bel (by simp) (termLevelsOk_any td _ _ _ _ _ (HL.out _ _ (Bel.h _)) HZ2.out))))
  refine wpQuiet_nil ?_
  intro _ hw'
  obtain ⟨p, hw2⟩ := hw'
  subst hw2
  go_wp2_with fail
  go_ret
  exact ⟨rfl, (bel_alloc (Below.refl _ _) _).trans (p.h.mono (by omega))⟩
end Go.Proofs.YtbgibiongnhjoaaGreat

/- What the program's TermOk answers: whether the nodes make a valid term; nothing that was there is written. -/
namespace Go.Proofs.YtbgibiongnhjoaaGreat
open Go.ChangeShapes Go.WideShapes Go.ChangeAt Go.RowKit

/-- Whether nodes make a valid term. -/
abbrev termB (ts : List Td) : Bool := termB' (tfieldsB nameB) ts

set_option maxRecDepth 20000 in
set_option maxHeartbeats 2000000 in
theorem implTermOk_any (v : Value) (ts : List Td) (w : World) (hns : TNodesAt w v ts) (hsz : ∀ td ∈ ts, TLens td) :
    Calls Tryz.prog 96 #[.agg #[v]] w fun e w' => e = .returned (.bool (termB ts)) ∧ Below w.heap.size w w' := by
  obtain ⟨i3, hi3, hz3, hs3, hb3⟩ := info_parts Tryz.info3
  obtain ⟨a, cap, rfl, hl, hm, hc⟩ := hns
  unfold maxLen at hm
  have H : Hid (0 < ts.length → ∃ b off, a = some ⟨b, off, none⟩ ∧ ∀ i (h : i < ts.length), TNodeAt w b (off + i * 6) ts[i]) := hc
  have HZ := hide hsz
  clear hc hsz
  by_cases h64 : 20000 < ts.length
  · have HF : Hid (termB ts = false) := by show _ = false; simp [termB, termB']; omega
    have hq64 : decide (20000 < (ts.length : Int)) = true := by simp; omega
    go_enter Tryz.func96, Tryz.ntmps96
    go_wp2_with fail
    go_ret
    exact ⟨ret_bool HF.out.symm, (Below.refl _ _).alloc (Nat.le_refl _) _⟩
  have hq64 : decide (20000 < (ts.length : Int)) = false := by simp; omega
  have hbox : (w.alloc (.cells #[.slice a ts.length cap] 28)).cell? ⟨w.heap.size, 0, none⟩ = some (.slice a ts.length cap) := by simp [go_sem]
  have HBX := hide hbox
  clear hbox
  go_enter Tryz.func96, Tryz.ntmps96
  go_wp2_with (
    at_make
    refine wpList_make_own _ rfl _ _ 65 rfl (w.heap.size + 1) 3 i3 (.int .i64 0) 1 Tryz.underlying65 hi3 hz3 hs3 .i64 .i64 (ts.length : Int) ts.length rfl rfl (by simp) (by rw [hb3]; omega) (by unfold maxLen; omega) (by simp) ?_
    intro w1 hown1 hgrow1
    have hb01 : Below (w.heap.size + 1) (w.alloc (.cells #[.slice a ts.length cap] 28)) w1 := (Below.refl _ _).grown hgrow1 (by simp) (fun k hk => by cases hk)
    have hx1 := keep_cell (hb01.mono (by simp)) HBX.out
    have HB1 := hide ((bel_alloc (Below.refl w.heap.size w) (.cells #[.slice a ts.length cap] 28)).trans (hb01.mono (by omega)))
    have HO1 := hide hown1
    clear hown1 hgrow1 hb01)
  go_loopw [3, 4, 18] (fun o r i wr => ∃ (k g gc : Nat) (st : List Int), k ≤ ts.length ∧ i = .int .i64 k ∧ o = .bool true ∧ Hid (trun (tfieldsB nameB) ts k = some st) ∧ st.length ≤ k ∧ r = .slice (some ⟨g, 0, none⟩) st.length gc ∧ Hid (OwnI (w.heap.size + 1) wr g gc st) ∧ wr.cell? ⟨w.heap.size, 0, none⟩ = some (.slice a ts.length cap) ∧ Hid (Below w.heap.size w wr)) (fun _ _ i _ => ts.length - (intOf i).toNat)
  case atStart => exact ⟨0, _, _, [], by omega, rfl, rfl, rfl, by simp, rfl, by show OwnI _ _ _ _ _; have := HO1.out; simpa [OwnI] using this, hx1, HB1.out⟩
  case round =>
    obtain ⟨k, g, gc, st, hk, rfl, rfl, HR, hsk, rfl, HO, hbox, HBL⟩ := hrel
    clear HBX HO1 HB1 hx1
    have hbs := HBL.out.size
    by_cases hlt : k < ts.length
    · obtain ⟨b, off, rfl, hc⟩ := H.out (by omega)
      obtain ⟨c1, c2, c3, c4, lv, c5, hlv0, kv, c6, hkv0⟩ := hc k hlt
      have HKW := hide hkv0
      have HLW := hide hlv0
      have c1 := keep_cell HBL.out c1
      have c2 := keep_cell HBL.out c2
      have c3 := keep_cell HBL.out c3
      have c4 := keep_cell HBL.out c4
      have c5 := keep_cell HBL.out c5
      have c6 := keep_cell HBL.out c6
      have hkv := hkv0.keep HBL.out
      have HNO := hide (term_false (tfieldsB nameB) ts k hlt st HR.out)
      have HGO := hide (trun_succ (tfieldsB nameB) ts k hlt st HR.out)
      have HS := hide (HZ.out ts[k] (by simp))
      have HKV := hide hkv
      clear hkv0
      obtain ⟨ka, kc, rfl, _, _, _⟩ := hkv
      obtain ⟨la, lc, rfl, _, _, _⟩ := hlv0
      clear hc H
      generalize ts[k] = td at *
      have hlt' : (k : Int) < ts.length := by omega
      have hgl := HO.out.lt
      have HGL := hide hgl
      have hbg : Hid (Below wr.heap.size wr (wr.alloc (.cells #[.int .i64 td.k, .int .i64 td.n, .int .i64 td.m, .string td.s, .slice la td.lv.length lc, .slice ka td.kids.length kc] 67))) := bel_alloc (Below.refl _ _) _
      have HKV1 := hide (HKV.out.keep hbg.out)
      have HO1 := hide (HO.out.keep hbg.out)
      have hkr := tkidsN_cases td.k
      have hc1 : -1 ≤ tkidsN td.k := by omega
      have hc3 : tkidsN td.k ≤ 3 := by omega
      have hst : st.length ≤ 1048576 := by omega
      clear hkr hgl
      by_cases hbad : tkidsN td.k < 0 ∨ (st.length : Int) < tkidsN td.k ∨ td.kids ≠ st.drop (st.length - (tkidsN td.k).toNat)
      · have HF : Hid (termB ts = false) := HNO.out (tstep_none _ (by rcases hbad with h | h | h <;> simp [h]))
        have HBAD := hide hbad
        clear hbad
        go_wp2_with fail
        go_region_with (first
          | (go_at_call 145; refine (termKids_any _ _).mono ?_; rintro e w' ⟨rfl, rfl⟩)
          | (go_at_call 144; refine (joinKids_bad st td.kids (w.heap.size + 1) g gc (k : Int) (tkidsN td.k) _ _ ?_ ?_ hc1 hc3 hst HBAD.out).mono ?_; exact HO1.out.keep (by repeat (first | exact Below.refl _ _ | apply Below.drew)); exact HKV1.out.keep (by repeat (first | exact Below.refl _ _ | apply Below.drew)); rintro e w3 ⟨rfl, n, rfl⟩)
          | fail)
        all_goals
          go_wp2_with fail
          go_ret
          exact ⟨ret_bool HF.out.symm, below_drewN (HBL.out.trans (hbg.out.mono hbs)) _⟩
      · obtain ⟨lo, hlo⟩ : ∃ lo : Nat, (st.length : Int) - tkidsN td.k = (lo : Int) := ⟨st.length - (tkidsN td.k).toNat, by omega⟩
        have hlo2 : lo ≤ st.length := by omega
        have hcn : 0 ≤ tkidsN td.k := by omega
        have heq : td.kids = st.drop lo := by
          rw [show st.length - (tkidsN td.k).toNat = lo from by omega] at hbad
          simp at hbad; exact hbad.2.2
        have hcs : tkidsN td.k ≤ (st.length : Int) := by omega
        have HSS := hide (fun h3 : tfieldsB nameB td = true => tstep_some (tfieldsB nameB) (i := k) hcn hcs h3 (by rw [show st.length - (tkidsN td.k).toNat = lo from by omega]; exact heq))
        have HLE : Hid (st.length - (tkidsN td.k).toNat = lo) := by show _ = _; omega
        have HLEN : Hid ((st.take lo ++ [(k : Int)]).length = lo + 1) := by show _ = _; simp; omega
        have HLO := hide hlo
        have HEQ := hide heq
        have HGL2 : Hid (¬ wr.heap.size = g) := by show ¬ _; have := HGL.out; omega
        clear hbad hlo heq
        cases hF : tfieldsB nameB td
        · have HF : Hid (termB ts = false) := HNO.out (tstep_none _ (.inr (.inr (.inl hF))))
          go_wp2_with fail
          go_region_with (first
            | (go_at_call 145; refine (termKids_any _ _).mono ?_; rintro e w' ⟨rfl, rfl⟩)
            | (go_at_call 144; refine (joinKids_good st td.kids (w.heap.size + 1) g gc lo (k : Int) (tkidsN td.k) _ _ ?_ ?_ hcn hc3 hst HLO.out HEQ.out).mono ?_; exact HO1.out.keep (by repeat (first | exact Below.refl _ _ | apply Below.drew)); exact HKV1.out.keep (by repeat (first | exact Below.refl _ _ | apply Below.drew)); rintro e w3 ⟨g3, gc3, rfl, ho3, hb3', hgr3⟩
               have m0 := hgr3.cell_far ⟨wr.heap.size, 0, none⟩ (by simp) (by simp; exact HGL2.out)
               have m1 := hgr3.cell_far ⟨wr.heap.size, 1, none⟩ (by simp) (by simp; exact HGL2.out)
               have m2 := hgr3.cell_far ⟨wr.heap.size, 2, none⟩ (by simp) (by simp; exact HGL2.out)
               have m3 := hgr3.cell_far ⟨wr.heap.size, 3, none⟩ (by simp) (by simp; exact HGL2.out)
               have m4 := hgr3.cell_far ⟨wr.heap.size, 4, none⟩ (by simp) (by simp; exact HGL2.out)
               have m5 := hgr3.cell_far ⟨wr.heap.size, 5, none⟩ (by simp) (by simp; exact HGL2.out)
               simp [go_sem] at m0 m1 m2 m3 m4 m5)
            | fail)
          all_goals
            have hbw3 := (below_drewN (HBL.out.trans (hbg.out.mono hbs)) 1).trans (hb3'.mono (by omega))
            have HKV3 := hide (HKW.out.keep hbw3)
            have HLV3 := hide (HLW.out.keep hbw3)
            go_wp2_with (go_at_call 146; refine (termFieldsOk_any td _ _ _ HLV3.out HKV3.out HS.out).mono ?_; rintro e w4 ⟨rfl, hb4⟩; rw [hF])
            go_ret
            exact ⟨ret_bool HF.out.symm, hbw3.trans (hb4.mono hbw3.size)⟩
        · have HN : Hid (trun (tfieldsB nameB) ts (k + 1) = some (st.take lo ++ [(k : Int)])) := by
            show _ = _
            rw [HGO.out, HSS.out hF, HLE.out]
          go_wp2_with fail
          go_region_with (first
            | (go_at_call 145; refine (termKids_any _ _).mono ?_; rintro e w' ⟨rfl, rfl⟩)
            | (go_at_call 144; refine (joinKids_good st td.kids (w.heap.size + 1) g gc lo (k : Int) (tkidsN td.k) _ _ ?_ ?_ hcn hc3 hst HLO.out HEQ.out).mono ?_; exact HO1.out.keep (by repeat (first | exact Below.refl _ _ | apply Below.drew)); exact HKV1.out.keep (by repeat (first | exact Below.refl _ _ | apply Below.drew)); rintro e w3 ⟨g3, gc3, rfl, ho3, hb3', hgr3⟩
               have m0 := hgr3.cell_far ⟨wr.heap.size, 0, none⟩ (by simp) (by simp; exact HGL2.out)
               have m1 := hgr3.cell_far ⟨wr.heap.size, 1, none⟩ (by simp) (by simp; exact HGL2.out)
               have m2 := hgr3.cell_far ⟨wr.heap.size, 2, none⟩ (by simp) (by simp; exact HGL2.out)
               have m3 := hgr3.cell_far ⟨wr.heap.size, 3, none⟩ (by simp) (by simp; exact HGL2.out)
               have m4 := hgr3.cell_far ⟨wr.heap.size, 4, none⟩ (by simp) (by simp; exact HGL2.out)
               have m5 := hgr3.cell_far ⟨wr.heap.size, 5, none⟩ (by simp) (by simp; exact HGL2.out)
               simp [go_sem] at m0 m1 m2 m3 m4 m5)
            | fail)
          all_goals
            have hbw3 := (below_drewN (HBL.out.trans (hbg.out.mono hbs)) 1).trans (hb3'.mono (by omega))
            have HKV3 := hide (HKW.out.keep hbw3)
            have HLV3 := hide (HLW.out.keep hbw3)
            have hz3 := hgr3.size
            have hx3 : w3.cell? ⟨w.heap.size, 0, none⟩ = some (.slice (some ⟨b, off, none⟩) ts.length cap) := by
              rw [hb3'.cell (p := ⟨w.heap.size, 0, none⟩) (by simp)]; exact keep_cell (below_drewN hbg.out 1) hbox
            have HO3 := hide ho3
            clear hgr3 hb3' ho3
            go_wp2_with (go_at_call 146; refine (termFieldsOk_any td _ _ _ HLV3.out HKV3.out HS.out).mono ?_; rintro e w4 ⟨rfl, hb4⟩; rw [hF])
            go_roundw
            case rel => exact ⟨k + 1, _, _, _, by omega, by go_num, rfl, HN, by rw [HLEN.out]; omega, by rw [HLEN.out], HO3.out.keep hb4, keep_cell hb4 hx3, hbw3.trans (hb4.mono hbw3.size)⟩
            case measure => simp [intOf]; omega
    · have HR2 : Hid (trun (tfieldsB nameB) ts ts.length = some st) := by
        have := HR.out
        rwa [show k = ts.length from by omega] at this
      have hlt' : ¬ (k : Int) < ts.length := by omega
      have HF : Hid (termB ts = decide (st.length = 1)) := by show _ = _; simp [termB, termB', HR2.out]; omega
      by_cases h1 : st.length = 1
      · have hq1 : ((st.length : Int) == 1) = true := beq_iff_eq.2 (by omega)
        have HF2 : Hid (termB ts = true) := by show _ = _; rw [HF.out]; simp [h1]
        clear h1
        go_wp2_with fail
        go_ret
        exact ⟨ret_bool HF2.out.symm, HBL.out⟩
      · have hq1 : ((st.length : Int) == 1) = false := beq_eq_false_iff_ne.2 (by omega)
        have HF2 : Hid (termB ts = false) := by show _ = _; rw [HF.out]; simp [h1]
        clear h1
        go_wp2_with fail
        go_ret
        exact ⟨ret_bool HF2.out.symm, HBL.out⟩
end Go.Proofs.YtbgibiongnhjoaaGreat

/- Facts that the walk of the specification's l3Tree wants. -/
namespace Go.Proofs.YtbgibiongnhjoaaGreat
open Go.ChangeShapes Go.WideShapes Go.ChangeAt Go.RowKit

theorem Tryz.info72 : (Tryz.prog.info? 72).map (fun i => (i.zero, i.size, i.bytes)) = some (some (.pointer none), 1, 8) := by kernel_rfl
theorem bad_len {st : List Int} {td : Td} (h : tkidsN td.k ≠ (td.kids.length : Int)) : tkidsN td.k < 0 ∨ (st.length : Int) < tkidsN td.k ∨ tfieldsB nameB td = false ∨ td.kids ≠ st.drop (st.length - (tkidsN td.k).toNat) := by
  by_cases h1 : tkidsN td.k < 0
  · exact .inl h1
  by_cases h2 : (st.length : Int) < tkidsN td.k
  · exact .inr (.inl h2)
  refine .inr (.inr (.inr fun e => h ?_))
  have := congrArg List.length e
  simp at this
  omega
theorem kind_of {k : Int} {n : Nat} (h : tkidsN k = (n : Int)) : 1 ≤ k ∧ k ≤ 9 := by
  by_cases h1 : k < 1 ∨ 9 < k
  · have := tkidsN_neg k h1; omega
  · omega
theorem num_of {td : Td} (h : tfieldsB nameB td = true) (hk : td.k = 1) : 0 ≤ td.n ∧ td.n ≤ 20000 := by
  unfold tfieldsB numB at h
  simp only [Bool.and_eq_true, decide_eq_true_eq] at h
  obtain ⟨⟨⟨⟨h1, h2⟩, _⟩, _⟩, _⟩ := h
  rw [hk] at h2
  exact ⟨h1, h2⟩
theorem ptr_snoc (ps : List Nat) (lo j : Nat) (h : lo + j < ps.length) : ((ps.drop lo).take j).map ptrV ++ [ptrV ps[lo + j]] = ((ps.drop lo).take (j + 1)).map ptrV := by
  have hd : j < (ps.drop lo).length := by simp; omega
  rw [List.take_succ_eq_append_getElem hd]
  simp
theorem drop_eq {ks st : List Int} {lo : Nat} (hl : ks.length + lo = st.length) (h : ∀ m (h1 : m < ks.length) (h2 : lo + m < st.length), ks[m] = st[lo + m]) : ks = st.drop lo := by
  apply List.ext_getElem
  · simp; omega
  · intro i h1 h2
    rw [h i h1 (by simp at h2; omega)]; simp
theorem drop_ne {ks st : List Int} {lo m : Nat} (h1 : m < ks.length) (h2 : lo + m < st.length) (h : ks[m] ≠ st[lo + m]) : ks ≠ st.drop lo := by
  intro e; apply h; subst e; simp
theorem sumZ_split (zs : List Zs) (lo : Nat) : sumZ (zs.take lo) + sumZ (zs.drop lo) = sumZ zs := by
  rw [← sumZ_append, List.take_append_drop]
theorem zok_next {zs : List Zs} {k n : Int} {lo : Nat} (h : ∀ z ∈ zs, ZOk z) (hn : k = 1 → 0 ≤ n ∧ n ≤ 20000) : ∀ z ∈ zs.take lo ++ [zmk k n (zs.drop lo)], ZOk z := by
  intro z hz
  rcases List.mem_append.1 hz with h1 | h1
  · exact h z (List.mem_of_mem_take h1)
  · simp at h1; subst h1; exact zmk_ok k n _ (fun z hz => h z (List.mem_of_mem_drop hz)) hn
theorem sum_next {zs : List Zs} {k n : Int} {lo : Nat} {q : Nat} (h : sumZ zs = (q : Int)) : sumZ (zs.take lo ++ [zmk k n (zs.drop lo)]) = ((q + 1 : Nat) : Int) := by
  have := sumZ_split zs lo
  rw [sumZ_append]; simp [sumZ, zmk]; omega
end Go.Proofs.YtbgibiongnhjoaaGreat

/- What the specification's l1Trees answers, with the trees held against the levels. -/
namespace Go.Proofs.YtbgibiongnhjoaaGreat
open Go.ChangeShapes Go.WideShapes Go.ChangeAt Go.RowKit

/-- The tree of a level. -/
def LvTree (ns : List Nd) (t : Tr) : Prop := ns = t.flat 0 ∧ t.ok ∧ t.names [] = namesOf ns ∧ t.cnt = ns.length
/-- The first j levels and their trees. -/
def LvRel (ls : List (List Nd)) (us : List Tr) (j : Nat) : Prop := us.length = j ∧ ∀ q (h1 : q < ls.length) (h2 : q < us.length), LvTree ls[q] us[q]
theorem lvrel_nil (ls : List (List Nd)) : LvRel ls [] 0 := ⟨rfl, fun q _ h => by simp at h⟩
theorem lvrel_snoc {ls : List (List Nd)} {us : List Tr} {j : Nat} (hj : j < ls.length) (h : LvRel ls us j) {t : Tr} (ht : LvTree ls[j] t) : LvRel ls (us ++ [t]) (j + 1) := by
  obtain ⟨h1, h2⟩ := h
  refine ⟨by simp [h1], fun q hq hq2 => ?_⟩
  by_cases e : q < us.length
  · rw [List.getElem_append_left e]; exact h2 q hq e
  · have h3 : q = j := by simp at hq2; omega
    subst h3
    rw [List.getElem_append_right (by omega)]
    simp only [h1, Nat.sub_self, List.getElem_cons_zero]
    exact ht
/-- A row of pointers whose block is among those that Q lets by. -/
def PtrRowQ (Q : Nat → Prop) (w : World) (v : Value) (ps : List Nat) : Prop :=
  ∃ a cap, v = .slice a ps.length cap ∧ ps.length ≤ cap ∧ cap ≤ maxLen ∧ (0 < ps.length → ∃ b off, a = some ⟨b, off, none⟩ ∧ Q b ∧ ∀ j (h : j < ps.length), w.cell? ⟨b, off + j, none⟩ = some (ptrV ps[j]))
theorem PtrRowQ.row {Q : Nat → Prop} {w : World} {v : Value} {ps : List Nat} (h : PtrRowQ Q w v ps) : PtrRow w v ps := by
  obtain ⟨a, cap, h1, h2, h3, h4⟩ := h
  refine ⟨a, cap, h1, h2, h3, fun h0 => ?_⟩
  obtain ⟨b, off, h5, _, h6⟩ := h4 h0
  exact ⟨b, off, h5, h6⟩
/-- Carried to another world: each block that Q lets by keeps its cells, and R lets it by. -/
theorem PtrRowQ.to {Q R : Nat → Prop} {w w' : World} {v : Value} {ps : List Nat} (h : PtrRowQ Q w v ps) (hw : ∀ b, Q b → b < w.heap.size → R b ∧ ∀ o u, w.cell? ⟨b, o, none⟩ = some u → w'.cell? ⟨b, o, none⟩ = some u) : PtrRowQ R w' v ps := by
  obtain ⟨a, cap, h1, h2, h3, h4⟩ := h
  refine ⟨a, cap, h1, h2, h3, fun h0 => ?_⟩
  obtain ⟨b, off, h5, hq, h6⟩ := h4 h0
  obtain ⟨hr, hc⟩ := hw b hq (lt_cell (h6 0 h0))
  exact ⟨b, off, h5, hr, fun j hj => hc _ _ (h6 j hj)⟩
theorem PtrRowQ.own {w : World} {base : Nat} {e : TypeId} {v : Value} {n : Nat} {ps : List Nat} (h : w.ownsRow base e 1 v n (ps.map ptrV)) (hn : n = ps.length) : PtrRowQ (fun b => base ≤ b) w v ps := by
  subst hn
  rcases h.2 with ⟨rfl, h0⟩ | ⟨g, cap, cur, rfl, hbg, hg, hnc, hcm, hcs, htake⟩
  · exact ⟨none, 0, by rw [h0], by omega, by unfold maxLen; omega, fun h => by omega⟩
  · refine ⟨_, _, rfl, hnc, hcm, fun _ => ⟨g, 0, rfl, hbg, fun j hj => ?_⟩⟩
    rw [Nat.zero_add, h.cellAt j (by omega), List.getElem?_map, List.getElem?_eq_getElem hj]; rfl
/-- A row of levels as trees. -/
def LevRowF (Q : Nat → Prop) (w : World) (v : Value) (ls : List (List Nd)) : Prop := ∃ ps us, ps.length = ls.length ∧ PtrRowQ Q w v ps ∧ LevTrees w ps us ∧ LvRel ls us ls.length
theorem LevRowF.keep {Q : Nat → Prop} {w w' : World} (hb : Below w.heap.size w w') {v : Value} {ls : List (List Nd)} (h : LevRowF Q w v ls) : LevRowF Q w' v ls := by
  obtain ⟨ps, us, h1, h2, h3, h4⟩ := h
  exact ⟨ps, us, h1, h2.to (fun b hq _ => ⟨hq, fun o u hu => keep_cell hb hu⟩), h3.keep hb, h4⟩
theorem LevRowF.row {Q : Nat → Prop} {w : World} {v : Value} {ls : List (List Nd)} (h : LevRowF Q w v ls) : LevRow w v ls.length := by
  obtain ⟨ps, us, h1, h2, h3, h4⟩ := h
  exact ⟨ps, us, h1, h2.row, h3⟩

set_option maxRecDepth 20000 in
set_option maxHeartbeats 2000000 in
theorem l1TreesF_any (v : Value) (ls : List (List Nd)) (w : World) (hl : LevsAt w v ls) (hz : ∀ l ∈ ls, LvLens l) (hlen : ls.length ≤ 1048576) :
    Calls Tryz.prog 69 #[v] w fun e w' => (∃ a n cap, e = .returned (.tuple #[.slice a n cap, .bool (ls.all lvlB)]) ∧ (ls.all lvlB = true → n = ls.length ∧ LevRowF (fun b => w.heap.size ≤ b) w' (.slice a n cap) ls)) ∧ Below w.heap.size w w' := by
  obtain ⟨i82, hi82, hz82, hs82, hb82⟩ := info_parts Tryz.info164
  obtain ⟨a, cap, rfl, hlc, hcm, hc⟩ := hl
  have HC : Hid (0 < ls.length → ∃ b off, a = some ⟨b, off, none⟩ ∧ ∀ i (h : i < ls.length), ∃ u, w.cell? ⟨b, off + i, none⟩ = some u ∧ NodesAt w u ls[i]) := hc
  have HZ := hide hz
  unfold maxLen at hcm
  clear hc hz
  have hrow0 := World.ownsRow_lit (base := w.heap.size) (e := 164) (size := 1) w #[] 0 (Nat.le_refl _) (by unfold maxLen; omega) rfl
  have HR0 := hide hrow0
  clear hrow0
  go_enter Tryz.func69, Tryz.ntmps69
  go_wp2_with fail
  go_loopw [4, 5] (fun o i wr => ∃ (j g gc : Nat) (ps : List Nat) (us : List Tr), j ≤ ls.length ∧ i = .int .i64 j ∧ o = .slice (some ⟨g, 0, none⟩) j gc ∧ ps.length = j ∧ Hid (wr.ownsRow w.heap.size 164 1 (.slice (some ⟨g, 0, none⟩) j gc) j (ps.map ptrV)) ∧ Hid (LevTrees wr ps us) ∧ Hid (LvRel ls us j) ∧ Hid ((ls.take j).all lvlB = true) ∧ Below w.heap.size w wr) (fun _ i _ => ls.length - (intOf i).toNat)
  case atStart => exact ⟨0, _, _, [], [], by omega, rfl, rfl, rfl, HR0.out, ⟨⟨rfl, fun j h => by simp at h⟩, by simp⟩, lvrel_nil ls, by simp [Hid], bel_alloc (Below.refl _ _) _⟩
  case round =>
    obtain ⟨j, g, gc, ps, us, hj, rfl, rfl, hpl, HO, HT, HLR, HA, hbel⟩ := hrel
    clear HR0
    by_cases hlt : j < ls.length
    · obtain ⟨b, off, rfl, hc⟩ := HC.out (by omega)
      obtain ⟨u, c1, hnu⟩ := hc j hlt
      have c1' := keep_cell hbel c1
      have HNU := hide (hnu.keep hbel)
      have HSZ := hide (HZ.out ls[j] (by simp))
      have HTK := hide (all_take_succ hlt HA.out)
      have HN := hide (all_not_at hlt)
      have HRN := hide (fun t (ht : LvTree ls[j] t) => lvrel_snoc hlt HLR.out ht)
      have hlt' : (j : Int) < ls.length := by omega
      clear hc c1
      generalize ls[j] = ns at *
      obtain ⟨ua, uc, rfl, _, _, _⟩ := hnu
      go_wp2_with fail
      refine (l1Tree_any _ ns _ HNU.out HSZ.out).mono ?_
      rintro e w2 ⟨(⟨hB, rfl⟩ | ⟨hB, gp, t, rfl, htr, hfl, hok, hnm, hcn⟩), hb2⟩
      · have HF : Hid (ls.all lvlB = false) := HN.out hB
        have HBL := hide (hbel.trans (hb2.mono hbel.size))
        clear hb2
        go_wp2_with (go_at_call 118; refine (none_none _).mono ?_; rintro e w' ⟨rfl, rfl⟩)
        refine bodyPost_ret (results_tmp2 Tryz.results69 _ _ _) rfl ?_
        exact ⟨⟨some ⟨g, 0, none⟩, j, gc, by rw [HF.out]; rfl, fun h => by rw [HF.out] at h; cases h⟩, HBL.out⟩
      · have HF := hide (HTK.out hB)
        have HFT := hide (fits_of hB hnm hcn)
        have HRL := hide (HRN.out t ⟨hfl, hok, hnm, hcn⟩)
        have HO2 := hide (row_keep hb2 HO.out)
        have HT2 := hide (HT.out.keep hb2)
        have HTR := hide htr
        have HBL := hide (hbel.trans (hb2.mono hbel.size))
        have hsz2 := hb2.size
        have hbs := hbel.size
        clear hb2 hnm hcn htr hB hfl hok
        go_wp2_with (first
          | (go_at_call 118; refine (none_some _ _).mono ?_; rintro e w' ⟨rfl, hw⟩; have hw := hw.symm; subst hw)
          | (at_builtin; refine wpList_append_lies _ rfl _ _ 105 rfl w.heap.size 164 i82 (.pointer none) 1 8 Tryz.underlying105 hi82 hz82 hs82 hb82 rfl (by omega) (.slice (some ⟨g, 0, none⟩) j gc) j (ps.map ptrV) rfl (HO2.out.alloc _) ⟨w2.heap.size, 0, none⟩ 1 1 [.pointer (some ⟨gp, 0, none⟩)] rfl rfl ?c1 ?c2 (by omega) ?c3 ?c4 ?c5 (w2.heap.size + 1) (by simp) ?_))
        case c1 => exact cell_one_new _ _ _
        case c2 => first | rfl | (intro u hu; simp at hu; subst hu; rfl)
        case c3 => unfold maxLen; omega
        case c4 => omega
        case c5 => simp; omega
        intro g4 cap4 w4 hown4 hgrow4 hat4 hlt4
        have htag := row_tag (HO2.out.alloc (.cells #[.pointer (some ⟨gp, 0, none⟩)] 164))
        have hsz4 := hgrow4.size
        have KT : ∀ (p : Nat) (t' : Tr), TreeAt w2.heap.size w2 p t' → TreeAt w4.heap.size w4 p t' := fun p t' ht' =>
          (((ht'.keep ((Below.refl w2.heap.size w2).alloc (Nat.le_refl _) _)).grown hgrow4 (fun k hk => by simp [Value.ownBlock] at hk; subst hk; obtain ⟨cs, hcs⟩ := htag; exact ⟨cs, 164, by decide, hcs⟩)).mono (by simp at hsz4; omega))
        have HTN := hide (show LevTrees w4 (ps ++ [gp]) (us ++ [t]) from ⟨HT2.out.1.snoc (fun q h1 h2 => KT _ _ (HT2.out.1.2 q h1 h2)) (KT _ _ HTR.out), by
          intro u' hu'
          rcases List.mem_append.1 hu' with h | h
          · exact HT2.out.2 u' h
          · simp at h; subst h; exact HFT.out⟩)
        have HON := hide (show w4.ownsRow w.heap.size 164 1 (.slice (some ⟨g4, 0, none⟩) (j + 1) cap4) (j + 1) ((ps ++ [gp]).map ptrV) by rw [List.map_append]; exact hown4)
        have HBN := hide ((HBL.out.alloc (by omega) _).grown hgrow4 (by simp; omega) (fun k hk => by simp [Value.ownBlock] at hk; subst hk; exact (HO2.out.lt g rfl).1))
        clear hown4 hgrow4 hat4 hlt4 htag KT
        go_wp2_with fail
        go_roundw
        case rel => exact ⟨j + 1, _, _, _, _, by omega, by go_num, rfl, by simp [hpl], HON, HTN, HRL, HF, HBN.out⟩
        case measure => simp [intOf]; omega
    · have HF : Hid (ls.all lvlB = true) := by have := HA.out; rwa [List.take_of_length_le (by omega)] at this
      have hlt' : ¬ (j : Int) < ls.length := by omega
      have hje : j = ls.length := by omega
      subst hje
      go_wp2_with fail
      refine bodyPost_ret (results_tmp2 Tryz.results69 _ _ _) rfl ?_
      exact ⟨⟨some ⟨g, 0, none⟩, ls.length, gc, by rw [HF.out]; rfl, fun _ => ⟨rfl, show LevRowF _ _ _ _ from ⟨ps, us, hpl, PtrRowQ.own HO.out hpl.symm, HT.out, HLR.out⟩⟩⟩, hbel⟩
end Go.Proofs.YtbgibiongnhjoaaGreat
