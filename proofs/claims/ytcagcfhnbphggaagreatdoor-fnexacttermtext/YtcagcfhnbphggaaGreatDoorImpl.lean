/- What the program's LevelOk answers: whether the nodes make a valid level; nothing that was there is written. -/
import Derived.Test.YtcagcfhnbphggaaGreatDoorJoin
import Derived.BigQuiet
import Derived.Deep.QuietTactic
namespace Go.Proofs.YtcagcfhnbphggaaGreatDoor
open Go.ChangeShapes Go.WideShapes Go.ChangeAt Go.RowKit

/-- One step of the walk over the nodes, in the words of the program. -/
theorem step_none1 {st : List Int} {i : Nat} {nd : Nd} (h : kidsN nd.k < 0 ∨ (st.length : Int) < kidsN nd.k ∨ fieldsB nd = false ∨ nd.kids ≠ st.drop (st.length - (kidsN nd.k).toNat)) : stepN st i nd = none := by rw [stepN, if_pos h]
theorem step_some {st : List Int} {i : Nat} {nd : Nd} (h1 : 0 ≤ kidsN nd.k) (h2 : kidsN nd.k ≤ st.length) (h3 : fieldsB nd = true) (h4 : nd.kids = st.drop (st.length - (kidsN nd.k).toNat)) :
    stepN st i nd = some (st.take (st.length - (kidsN nd.k).toNat) ++ [(i : Int)]) := by
  rw [stepN, if_neg]
  rintro (h | h | h | h)
  · omega
  · omega
  · rw [h3] at h; cases h
  · exact h h4
theorem lvl_false (ns : List Nd) (i : Nat) (hi : i < ns.length) (st : List Int) (hr : runTo ns i = some st) (hs : stepN st i ns[i] = none) : lvlB ns = false := by
  have h1 := runTo_succ ns i hi st hr
  rw [hs] at h1
  have h2 := runTo_none ns (i + 1) ns.length (by omega) h1
  simp [lvlB, h2]

set_option maxHeartbeats 2000000 in
set_option maxRecDepth 20000 in
theorem implLevelOk_any (v : Value) (ns : List Nd) (w : World) (hns : NodesAt w v ns) (hsz : ∀ nd ∈ ns, nd.s.size ≤ maxLen) :
    Calls Tryz.prog 71 #[.agg #[v]] w fun e w' => e = .returned (.bool (lvlB ns)) ∧ Below w.heap.size w w' := by
  obtain ⟨i3, hi3, hz3, hs3, hb3⟩ := info_parts Tryz.info3
  have HNS := hide hns
  obtain ⟨a, cap, rfl, hl, hm, hc⟩ := hns
  unfold maxLen at hm
  have H : Hid (0 < ns.length → ∃ b off, a = some ⟨b, off, none⟩ ∧ ∀ i (h : i < ns.length), NodeAt w b (off + i * 3) ns[i]) := hc
  have HZ : Hid (∀ nd ∈ ns, nd.s.size ≤ maxLen) := hsz
  clear hc hsz
  by_cases h64 : 64 < ns.length
  · have HF : Hid (lvlB ns = false) := by show _ = false; simp [lvlB]; omega
    have hq64 : decide (64 < (ns.length : Int)) = true := by simp; omega
    go_enter Tryz.func71, Tryz.ntmps71
    go_wp2_with fail
    go_ret
    exact ⟨ret_bool HF.out.symm, (Below.refl _ _).alloc (Nat.le_refl _) _⟩
  have hq64 : decide (64 < (ns.length : Int)) = false := by simp; omega
  have hbox : (w.alloc (.cells #[.slice a ns.length cap] 94)).cell? ⟨w.heap.size, 0, none⟩ = some (.slice a ns.length cap) := by simp [go_sem]
  have HBX := hide hbox
  clear hbox
  go_enter Tryz.func71, Tryz.ntmps71
  go_wp2_with (
    at_make
    refine wpList_make_own _ rfl _ _ 52 rfl (w.heap.size + 1) 3 i3 (.int .i64 0) 1 Tryz.underlying52 hi3 hz3 hs3 .i64 .i64 (64 : Int) 64 rfl rfl (by simp) (by rw [hb3]; omega) (by unfold maxLen; omega) (by simp) ?_
    intro w1 hown1 hgrow1
    have hb01 : Below (w.heap.size + 1) (w.alloc (.cells #[.slice a ns.length cap] 94)) w1 := (Below.refl _ _).grown hgrow1 (by simp) (fun k hk => by cases hk)
    have hx1 := keep_cell (hb01.mono (by simp)) HBX.out
    have HB1 := hide ((bel_alloc (Below.refl w.heap.size w) (.cells #[.slice a ns.length cap] 94)).trans (hb01.mono (by omega)))
    have HO1 := hide hown1
    clear hown1 hgrow1 hb01)
  go_loopw [3, 4, 15] (fun o r i wr => ∃ (k g gc : Nat) (st : List Int), k ≤ ns.length ∧ i = .int .i64 k ∧ o = .bool true ∧ Hid (runTo ns k = some st) ∧ st.length ≤ k ∧ r = .slice (some ⟨g, 0, none⟩) st.length gc ∧ Hid (OwnI (w.heap.size + 1) wr g gc st) ∧ wr.cell? ⟨w.heap.size, 0, none⟩ = some (.slice a ns.length cap) ∧ Hid (Below w.heap.size w wr)) (fun _ _ i _ => ns.length - (intOf i).toNat)
  case atStart => exact ⟨0, _, _, [], by omega, rfl, rfl, rfl, by simp, rfl, by show OwnI _ _ _ _ _; have := HO1.out; simpa [OwnI] using this, hx1, HB1.out⟩
  case round =>
    obtain ⟨k, g, gc, st, hk, rfl, rfl, HR, hsk, rfl, HO, hbox, HBL⟩ := hrel
    clear HBX HO1 HB1 hx1
    have hbs := HBL.out.size
    by_cases hlt : k < ns.length
    · obtain ⟨b, off, rfl, hc⟩ := H.out (by omega)
      obtain ⟨c1, c2, kv, c3, hkv0⟩ := hc k hlt
      have HKW := hide hkv0
      have c1 := keep_cell HBL.out c1
      have c2 := keep_cell HBL.out c2
      have c3 := keep_cell HBL.out c3
      have hkv := hkv0.keep HBL.out
      clear hkv0
      have HNO := hide (lvl_false ns k hlt st HR.out)
      have HGO := hide (runTo_succ ns k hlt st HR.out)
      have hs := HZ.out ns[k] (by simp)
      have HKV := hide hkv
      obtain ⟨ka, kc, rfl, _, _, _⟩ := hkv
      clear hc H
      generalize ns[k] = nd at *
      have hlt' : (k : Int) < ns.length := by omega
      have hgl := HO.out.lt
      have HGL := hide hgl
      have hbg : Hid (Below wr.heap.size wr (wr.alloc (.cells #[.int .i64 nd.k, .string nd.s, .slice ka nd.kids.length kc] 117))) := bel_alloc (Below.refl _ _) _
      have HKV1 := hide (HKV.out.keep hbg.out)
      have HO1 := hide (HO.out.keep hbg.out)
      have hkr := kidsN_cases nd.k
      have hc1 : -1 ≤ kidsN nd.k := by omega
      have hc3 : kidsN nd.k ≤ 3 := by omega
      have hst : st.length ≤ 1048576 := by omega
      clear hkr hgl
      by_cases hbad : kidsN nd.k < 0 ∨ (st.length : Int) < kidsN nd.k ∨ nd.kids ≠ st.drop (st.length - (kidsN nd.k).toNat)
      · have HF : Hid (lvlB ns = false) := HNO.out (step_none1 (by rcases hbad with h | h | h <;> simp [h]))
        have HBAD := hide hbad
        clear hbad
        go_wp2_with fail
        go_region_with (first
          | (go_at_call 86; refine (levelKids_any _ _).mono ?_; rintro e w' ⟨rfl, rfl⟩)
          | (go_at_call 32; refine (joinKids_bad st nd.kids (w.heap.size + 1) g gc (k : Int) (kidsN nd.k) _ _ ?_ ?_ hc1 hc3 hst HBAD.out).mono ?_; exact HO1.out.keep (by repeat (first | exact Below.refl _ _ | apply Below.drew)); exact HKV1.out.keep (by repeat (first | exact Below.refl _ _ | apply Below.drew)); rintro e w3 ⟨rfl, n, rfl⟩)
          | fail)
        all_goals
          go_wp2_with fail
          go_ret
          exact ⟨ret_bool HF.out.symm, below_drewN (HBL.out.trans (hbg.out.mono hbs)) _⟩
      · obtain ⟨lo, hlo⟩ : ∃ lo : Nat, (st.length : Int) - kidsN nd.k = (lo : Int) := ⟨st.length - (kidsN nd.k).toNat, by omega⟩
        have hlo2 : lo ≤ st.length := by omega
        have hcn : 0 ≤ kidsN nd.k := by omega
        have heq : nd.kids = st.drop lo := by
          rw [show st.length - (kidsN nd.k).toNat = lo from by omega] at hbad
          simp at hbad; exact hbad.2.2
        have hcs : kidsN nd.k ≤ (st.length : Int) := by omega
        have HSS := hide (fun h3 : fieldsB nd = true => step_some (i := k) hcn hcs h3 (by rw [show st.length - (kidsN nd.k).toNat = lo from by omega]; exact heq))
        have HLE : Hid (st.length - (kidsN nd.k).toNat = lo) := by show _ = _; omega
        have HLEN : Hid ((st.take lo ++ [(k : Int)]).length = lo + 1) := by show _ = _; simp; omega
        have HLO := hide hlo
        have HEQ := hide heq
        have HGL2 : Hid (¬ wr.heap.size = g) := by show ¬ _; have := HGL.out; omega
        have HHB : Hid (¬ w.heap.size = g) := by show ¬ _; have := HGL.out; omega
        clear hbad hlo heq
        cases hF : fieldsB nd
        · have HF : Hid (lvlB ns = false) := HNO.out (step_none1 (.inr (.inr (.inl hF))))
          go_wp2_with fail
          go_region_with (first
            | (go_at_call 86; refine (levelKids_any _ _).mono ?_; rintro e w' ⟨rfl, rfl⟩)
            | (go_at_call 32; refine (joinKids_good st nd.kids (w.heap.size + 1) g gc lo (k : Int) (kidsN nd.k) _ _ ?_ ?_ hcn hc3 hst HLO.out HEQ.out).mono ?_; exact HO1.out.keep (by repeat (first | exact Below.refl _ _ | apply Below.drew)); exact HKV1.out.keep (by repeat (first | exact Below.refl _ _ | apply Below.drew)); rintro e w3 ⟨g3, gc3, rfl, ho3, hb3', hgr3⟩
               have m1 := hgr3.cell_far ⟨wr.heap.size, 0, none⟩ (by simp) (by simp; exact HGL2.out)
               have m2 := hgr3.cell_far ⟨wr.heap.size, 1, none⟩ (by simp) (by simp; exact HGL2.out)
               have m3 := hgr3.cell_far ⟨wr.heap.size, 2, none⟩ (by simp) (by simp; exact HGL2.out)
               simp [go_sem] at m1 m2 m3)
            | fail)
          all_goals
            have hbw3 := (below_drewN (HBL.out.trans (hbg.out.mono hbs)) 1).trans (hb3'.mono (by omega))
            have HKV3 := hide (HKW.out.keep hbw3)
            go_wp2_with (go_at_call 87; refine (levelFieldsOk_any nd _ _ hs HKV3.out).mono ?_; rintro e w4 ⟨rfl, hb4⟩; rw [hF])
            go_ret
            exact ⟨ret_bool HF.out.symm, hbw3.trans (hb4.mono hbw3.size)⟩
        · have HN : Hid (runTo ns (k + 1) = some (st.take lo ++ [(k : Int)])) := by
            show _ = _
            rw [HGO.out, HSS.out hF, HLE.out]
          go_wp2_with fail
          go_region_with (first
            | (go_at_call 86; refine (levelKids_any _ _).mono ?_; rintro e w' ⟨rfl, rfl⟩)
            | (go_at_call 32; refine (joinKids_good st nd.kids (w.heap.size + 1) g gc lo (k : Int) (kidsN nd.k) _ _ ?_ ?_ hcn hc3 hst HLO.out HEQ.out).mono ?_; exact HO1.out.keep (by repeat (first | exact Below.refl _ _ | apply Below.drew)); exact HKV1.out.keep (by repeat (first | exact Below.refl _ _ | apply Below.drew)); rintro e w3 ⟨g3, gc3, rfl, ho3, hb3', hgr3⟩
               have m1 := hgr3.cell_far ⟨wr.heap.size, 0, none⟩ (by simp) (by simp; exact HGL2.out)
               have m2 := hgr3.cell_far ⟨wr.heap.size, 1, none⟩ (by simp) (by simp; exact HGL2.out)
               have m3 := hgr3.cell_far ⟨wr.heap.size, 2, none⟩ (by simp) (by simp; exact HGL2.out)
               simp [go_sem] at m1 m2 m3)
            | fail)
          all_goals
            have hbw3 := (below_drewN (HBL.out.trans (hbg.out.mono hbs)) 1).trans (hb3'.mono (by omega))
            have HKV3 := hide (HKW.out.keep hbw3)
            have hz3 := hgr3.size
            have hx3 : w3.cell? ⟨w.heap.size, 0, none⟩ = some (.slice (some ⟨b, off, none⟩) ns.length cap) := by
              rw [hb3'.cell (p := ⟨w.heap.size, 0, none⟩) (by simp)]; exact keep_cell (below_drewN hbg.out 1) hbox
            have HO3 := hide ho3
            clear hgr3 hb3' ho3
            go_wp2_with (go_at_call 87; refine (levelFieldsOk_any nd _ _ hs HKV3.out).mono ?_; rintro e w4 ⟨rfl, hb4⟩; rw [hF])
            go_roundw
            case rel => exact ⟨k + 1, _, _, _, by omega, by go_num, rfl, HN, by rw [HLEN.out]; omega, by rw [HLEN.out], HO3.out.keep hb4, keep_cell hb4 hx3, hbw3.trans (hb4.mono hbw3.size)⟩
            case measure => simp [intOf]; omega
    · have HR2 : Hid (runTo ns ns.length = some st) := by
        have := HR.out
        rwa [show k = ns.length from by omega] at this
      have hlt' : ¬ (k : Int) < ns.length := by omega
      by_cases h1 : st.length = 1
      · have HF : Hid (lvlB ns = decide ((namesOf ns).length ≤ 6)) := by show _ = _; simp [lvlB, HR2.out, h1]; omega
        have hq1 : ((st.length : Int) == 1) = true := beq_iff_eq.2 (by omega)
        clear h1
        go_wp2_with (go_at_call 88; refine (fewParams_any _ ns _ (HNS.out.keep HBL.out) HZ.out).mono ?_; rintro e w2 ⟨rfl, hb2⟩)
        go_ret
        exact ⟨ret_bool HF.out.symm, HBL.out.trans (hb2.mono HBL.out.size)⟩
      · have HF : Hid (lvlB ns = false) := by show _ = _; simp [lvlB, HR2.out, h1]
        have hq1 : ((st.length : Int) == 1) = false := beq_eq_false_iff_ne.2 (by omega)
        clear h1
        go_wp2_with fail
        go_ret
        exact ⟨ret_bool HF.out.symm, HBL.out⟩
end Go.Proofs.YtcagcfhnbphggaaGreatDoor
