/- What the specification's l1Tree answers: nil where the nodes make no valid level, else the tree of the level; nothing that was there is written. -/
import Derived.Test.YtcagcfhnbphggaaGreatDoorSpecL
import Derived.Deep.DrawnRows
import Derived.BigQuiet
import Derived.Deep.QuietTactic
import Derived.Shelf.SlSortCmp.QuietGrown
namespace Go.Proofs.YtcagcfhnbphggaaGreatDoor
open Go.ChangeShapes Go.WideShapes Go.ChangeAt Go.RowKit

attribute [local go_sem ↓] Go.wp_at_zero Go.wp_at_succ

set_option maxRecDepth 100000 in
set_option maxHeartbeats 4000000 in
theorem l1Tree_any (v : Value) (ns : List Nd) (w : World) (hns : NodesAt w v ns) (hsz : ∀ nd ∈ ns, nd.s.size ≤ maxLen) :
    Calls Tryz.prog 62 #[.agg #[v]] w fun e w' => ((lvlB ns = false ∧ e = .returned (.pointer none)) ∨ (lvlB ns = true ∧ ∃ g t, e = .returned (.pointer (some ⟨g, 0, none⟩)) ∧ TreeAt w'.heap.size w' g t ∧ ns = t.flat 0 ∧ t.ok ∧ t.names [] = namesOf ns ∧ t.cnt = ns.length)) ∧ Below w.heap.size w w' := by
  obtain ⟨a, cap, rfl, hl, hm, hc⟩ := hns
  unfold maxLen at hm
  have H : Hid (0 < ns.length → ∃ b off, a = some ⟨b, off, none⟩ ∧ ∀ i (h : i < ns.length), NodeAt w b (off + i * 3) ns[i]) := hc
  have HZ : Hid (∀ nd ∈ ns, nd.s.size ≤ maxLen) := hsz
  clear hc hsz
  by_cases h0 : ns.length < 1
  · have hq : decide ((ns.length : Int) < 1) = true := by simp; omega
    have HF : Hid (lvlB ns = false) := by show _ = false; simp [lvlB]; omega
    clear h0
    go_enter Tryz.func62, Tryz.ntmps62
    go_wp2_with fail
    go_ret
    exact ⟨.inl ⟨HF.out, rfl⟩, (Below.refl _ _).alloc (Nat.le_refl _) _⟩
  have hq0 : decide ((ns.length : Int) < 1) = false := by simp; omega
  by_cases h64 : 64 < ns.length
  · have HF : Hid (lvlB ns = false) := by show _ = false; simp [lvlB]; omega
    have hq64 : decide (64 < (ns.length : Int)) = true := by simp; omega
    go_enter Tryz.func62, Tryz.ntmps62
    go_wp2_with fail
    go_ret
    exact ⟨.inl ⟨HF.out, rfl⟩, (Below.refl _ _).alloc (Nat.le_refl _) _⟩
  have hq64 : decide (64 < (ns.length : Int)) = false := by simp; omega
  obtain ⟨i71, hi71, hz71, hs71, hb71⟩ := info_parts Tryz.info69
  obtain ⟨i3, hi3, hz3, hs3, hb3⟩ := info_parts Tryz.info3
  have hbox : ∀ o1 o2, (((w.alloc (.cells #[.slice a ns.length cap] 94)).alloc o1).alloc o2).cell? ⟨w.heap.size, 0, none⟩ = some (.slice a ns.length cap) := fun o1 o2 => by
    have h1 : w.heap.size < w.heap.size + 1 := by omega
    simp [go_sem, h1]
  have hrs := (World.ownsRow_lit (base := w.heap.size + 1) (e := 69) (size := 1) (w.alloc (.cells #[.slice a ns.length cap] 94)) #[] 0 (by simp) (by unfold maxLen; omega) rfl).alloc (.cells #[] 3)
  have hrt := World.ownsRow_lit (base := w.heap.size + 1) (e := 3) (size := 1) ((w.alloc (.cells #[.slice a ns.length cap] 94)).alloc (.cells #[] 69)) #[] 0 (by simp) (by unfold maxLen; omega) rfl
  simp only [World.size_alloc] at hrs hrt
  have HBX := hide hbox
  have HRS := hide hrs
  have HRT := hide hrt
  clear hbox hrs hrt
  go_enter Tryz.func62, Tryz.ntmps62
  go_wp2_with fail
  go_loopw [3, 4, 5] (fun sv tv i wr => ∃ (k : Nat) (st : List Int) (ts : List Tr) (ps : List Nat) (gs cs gt ct : Nat), k ≤ ns.length ∧ i = .int .i64 k ∧ Hid (runTo ns k = some st) ∧ Hid (Stands ns k st ts) ∧ st.length ≤ k ∧ Hid (ps.length = st.length) ∧ sv = .slice (some ⟨gs, 0, none⟩) st.length cs ∧ tv = .slice (some ⟨gt, 0, none⟩) st.length ct ∧ wr.ownsRow (w.heap.size + 1) 69 1 (.slice (some ⟨gs, 0, none⟩) st.length cs) st.length (ps.map ptrV) ∧ wr.ownsRow (w.heap.size + 1) 3 1 (.slice (some ⟨gt, 0, none⟩) st.length ct) st.length (st.map (Value.int .i64)) ∧ Hid (TreesAt wr ps ts) ∧ wr.cell? ⟨w.heap.size, 0, none⟩ = some (.slice a ns.length cap) ∧ Below w.heap.size w wr) (fun _ _ i _ => ns.length - (intOf i).toNat)
  case atStart => exact ⟨0, [], [], [], _, _, _, _, by omega, rfl, rfl, Stands.start ns, by simp, rfl, rfl, rfl, unhide HRS, unhide HRT, ⟨rfl, fun j h => by simp at h⟩, unhide HBX _ _, ((((Below.refl _ _).alloc (Nat.le_refl _) _).alloc (by simp) _).alloc (by simp; omega) _)⟩
  case round =>
    obtain ⟨k, st, ts, ps, gs, cs, gt, ct, hk, rfl, HR, HST, hsk, HPS, rfl, rfl, hS, hT, HTR, hbox, hbel⟩ := hrel
    clear HRS HRT HBX
    by_cases hlt : k < ns.length
    · obtain ⟨b, off, rfl, hc⟩ := H.out (by omega)
      obtain ⟨c1, c2, kv, c3, hkv⟩ := (hc k hlt).keep hbel
      have HNO := hide (lvl_false ns k hlt st HR.out)
      have HGO := hide (runTo_succ ns k hlt st HR.out)
      have HS0 := hide (fun lo => @stands_zero ns k lo st ts ns[k] HST.out hlt rfl)
      have HS1 := hide (fun lo => @stands_one ns k lo st ts ns[k] HST.out hlt rfl)
      have HS2 := hide (fun lo => @stands_two ns k lo st ts ns[k] HST.out hlt rfl)
      have hs := HZ.out ns[k] (by simp)
      have HKV := hide hkv
      obtain ⟨ka, kc, rfl, hkl, hkm, _⟩ := hkv
      clear hc H
      have hlt' : (k : Int) < ns.length := by omega
      generalize ns[k] = nd at *
      by_cases hA : nd.k < 1
      · have HF : Hid (lvlB ns = false) := HNO.out (step_none1 (.inl (by have := (kidsN_neg nd.k).2 (.inl hA); omega)))
        have dA : decide (nd.k < 1) = true := by simp [hA]
        go_wp2_with fail
        go_quiet (fail)
        go_wp2_with fail
        go_ret
        exact ⟨.inl ⟨HF.out, rfl⟩, below_drewN (bel_alloc hbel _) _⟩
      have dA : decide (nd.k < 1) = false := by simp; omega
      by_cases hB : 5 < nd.k
      · have HF : Hid (lvlB ns = false) := HNO.out (step_none1 (.inl (by have := (kidsN_neg nd.k).2 (.inr hB); omega)))
        have dB : decide (5 < nd.k) = true := by simp [hB]
        go_wp2_with fail
        go_quiet (fail)
        go_wp2_with fail
        go_ret
        exact ⟨.inl ⟨HF.out, rfl⟩, below_drewN (bel_alloc hbel _) _⟩
      have dB : decide (5 < nd.k) = false := by simp; omega
      obtain ⟨cn, HK⟩ : ∃ cn : Nat, Hid (kidsN nd.k = cn) := ⟨(kidsN nd.k).toNat, by show _ = _; have := kidsN_neg nd.k; have := kidsN_cases nd.k; omega⟩
      have hcn2 : cn ≤ 2 := by have := HK.out; have := kidsN_cases nd.k; omega
      have h1 : 1 ≤ nd.k := by omega
      have h5 : nd.k ≤ 5 := by omega
      by_cases hC0 : ¬ nd.kids.length = cn
      · have qC : ((nd.kids.length : Int) != (cn : Int)) = true := by rw [bne_iff_ne]; omega
        have HF : Hid (lvlB ns = false) := HNO.out (step_none1 (by
          by_cases hs2 : (st.length : Int) < kidsN nd.k
          · exact .inr (.inl hs2)
          · refine .inr (.inr (.inr (fun e => hC0 ?_)))
            have := congrArg List.length e
            rw [HK.out] at this hs2
            simp at this; omega))
        have mixed : Tryz.prog.follows .mixedOrders = true := by kernel_rfl
        have n0 : ∀ n os, (Sort.grow ((wr.alloc (.cells #[.int .i64 nd.k, .string nd.s, .slice ka nd.kids.length kc] 117)).drewN n) os).cell? ⟨wr.heap.size, 0, none⟩ = some (.int .i64 nd.k) := fun n os => cell_grown (by simp) (by simp [go_sem]) n os
        have n2 : ∀ n os, (Sort.grow ((wr.alloc (.cells #[.int .i64 nd.k, .string nd.s, .slice ka nd.kids.length kc] 117)).drewN n) os).cell? ⟨wr.heap.size, 2, none⟩ = some (.slice ka nd.kids.length kc) := fun n os => cell_grown (by simp) (by simp [go_sem]) n os
        clear hC0 HNO HGO HS0 HS1 HS2 HKV HZ
        go_wp2_with fail
        go_quiet_grown (first | (go_at_call 78; refine Calls.grown_of (v := .int .i64 (cn : Int)) ?_; refine (l1Kids_any nd.k _ h1 h5).mono ?_; rintro e w2 ⟨rfl, rfl⟩; rw [HK.out]; exact ⟨rfl, 0, #[_], Sort.alloc_eq_grow _ _⟩) | fail)
        go_wp2_with fail
        go_ret
        exact ⟨.inl ⟨HF.out, rfl⟩, below_grow (bel_alloc hbel _) _ _⟩
      have hC : nd.kids.length = cn := by omega
      have qC : ((nd.kids.length : Int) != (cn : Int)) = false := by simp [hC]
      by_cases hD : st.length < nd.kids.length
      · have HF : Hid (lvlB ns = false) := HNO.out (step_none1 (.inr (.inl (by rw [HK.out]; omega))))
        have dD : decide ((st.length : Int) < (nd.kids.length : Int)) = true := by simp; omega
        clear hC hC0 HNO HGO HS0 HS1 HS2 HKV HZ
        go_wp2_with fail
        go_region_held3 (fun w' => w'.cell? ⟨wr.heap.size, 0, none⟩ = some (.int .i64 nd.k) ∧ w'.cell? ⟨wr.heap.size, 2, none⟩ = some (.slice ka nd.kids.length kc)) (go_keep) (first | (go_at_call 78; refine (l1Kids_any nd.k _ h1 h5).mono ?_; rintro e w' ⟨rfl, rfl⟩; rw [HK.out]) | fail)
        go_wp2_with fail
        go_ret
        exact ⟨.inl ⟨HF.out, rfl⟩, by repeat (first | exact hbel | apply Below.drew | apply below_drewN | refine bel_alloc ?_ _)⟩
      clear hC0
      have dD : decide ((st.length : Int) < (nd.kids.length : Int)) = false := by simp; omega
      have HCN : Hid (nd.kids.length = cn) := hC
      have hST := HST.out.len
      have HST2 := hide hST
      clear hC hST
      go_wp2_with fail
      go_region_held3 (fun w' => w'.cell? ⟨wr.heap.size, 0, none⟩ = some (.int .i64 nd.k) ∧ w'.cell? ⟨wr.heap.size, 2, none⟩ = some (.slice ka nd.kids.length kc)) (go_keep) (first | (go_at_call 78; refine (l1Kids_any nd.k _ h1 h5).mono ?_; rintro e w' ⟨rfl, rfl⟩; rw [HK.out]) | fail)
      by_cases hk5 : nd.k = 5
      · have e5 : (nd.k == 5) = true := beq_iff_eq.2 hk5
        have n5 : (nd.k != 5) = false := by simp [hk5]
        have HK5 : Hid (cn = 0) := by show _ = _; have := HK.out; rw [hk5] at this; simp [kidsN] at this; omega
        cases hemp : paramB nd.s
        · have HF : Hid (lvlB ns = false) := HNO.out (step_none1 (.inr (.inr (.inl (by rw [fieldsB, if_pos hk5]; exact hemp)))))
          clear hk5
          go_wp2_with (go_at_call 79; refine (l1ParamOk_any _ _ hs).mono ?_; rintro e w' ⟨rfl, rfl⟩; rw [hemp])
          go_ret
          exact ⟨.inl ⟨HF.out, rfl⟩, by repeat (first | exact hbel | apply Below.drew | apply below_drewN | refine bel_alloc ?_ _)⟩
        · have HFI : Hid (fieldsB nd = true) := by show _ = true; rw [fieldsB, if_pos hk5]; exact hemp
          clear hk5
          have hmk : ∀ W : World, (Instr.makeSlice 60 (.int .i64 2) (.int .i64 2)).run Tryz.prog W = .ok (.slice (some ⟨W.heap.size, 0, none⟩) 2 2) (W.alloc (.cells #[.pointer none, .pointer none] 69)) := fun W => by kernel_rfl
          go_wp2_with (go_at_call 79; refine (l1ParamOk_any _ _ hs).mono ?_; rintro e w' ⟨rfl, rfl⟩; rw [hemp])
          obtain ⟨lo, helo⟩ : ∃ lo : Nat, (st.length : Int) - (nd.kids.length : Int) = (lo : Int) := ⟨st.length - nd.kids.length, by omega⟩
          have hlo2 : lo + nd.kids.length = st.length := by omega
          have HLO2 := hide hlo2
          have hlole : lo ≤ st.length := by omega
          have hkl2 : nd.kids.length ≤ 2 := by have := HCN.out; omega
          have HLN : Hid (st.length - (kidsN nd.k).toNat = lo) := by show _ = _; rw [HK.out]; have := HCN.out; omega
          rw [helo]
          have HELO := hide helo
          clear helo hlo2
          obtain ⟨wo, hwo⟩ : ∃ x, x = wr := ⟨_, rfl⟩
          subst hwo
          have hgs : gs < wo.heap.size := (hS.lt gs rfl).2
          have hgt : gt < wo.heap.size := (hT.lt gt rfl).2
          go_loopw [9] (fun i wq => ∃ (j : Nat) (us : List Value), j ≤ nd.kids.length ∧ i = .int .i64 j ∧ Hid (∀ m (h : m < nd.kids.length) (h2 : lo + m < st.length), m < j → nd.kids[m] = st[lo + m]) ∧ wq.ownsRow (w.heap.size + 1) 69 1 (.slice (some ⟨wo.heap.size + 1 + 1, 0, none⟩) 2 2) 2 us ∧ Hid (us = kidVals ps lo j) ∧ Below wo.heap.size wo wq ∧ wq.cell? ⟨wo.heap.size, 0, none⟩ = some (.int .i64 nd.k) ∧ wq.cell? ⟨wo.heap.size, 1, none⟩ = some (.string nd.s) ∧ wq.cell? ⟨wo.heap.size, 2, none⟩ = some (.slice ka nd.kids.length kc)) (fun i _ => nd.kids.length - (intOf i).toNat)
          case atStart =>
            have hr := World.ownsRow_lit (base := w.heap.size + 1) (e := 69) (size := 1) ((wo.alloc (.cells #[.int .i64 nd.k, .string nd.s, .slice ka nd.kids.length kc] 117)).alloc (.cells #[.int .i64 0, .int .i64 0, .int .i64 1, .int .i64 2, .int .i64 2, .int .i64 0] 3)) #[.pointer none, .pointer none] 2 (by have := hbel.size; have := hgs; have := (hS.lt gs rfl).1; simp; omega) (by unfold maxLen; omega) rfl
            simp only [World.size_alloc] at hr
            refine ⟨0, _, by omega, rfl, fun m _ _ h => by omega, hr.drew, rfl, (bel_alloc (bel_alloc (bel_alloc (Below.refl _ _) _) _) _).drew, ?_, ?_, ?_⟩
            all_goals
              show World.cell? (World.alloc (World.alloc (World.alloc _ _) _) _) _ = _
              simp [go_sem]
          case round =>
            obtain ⟨j, us, hj, rfl, HJ, hU, HUS, hbq, c0', c1', c2'⟩ := hrel
            have hT' := row_keep hbq hT
            have hS' := row_keep hbq hS
            by_cases hjl : j < nd.kids.length
            · exact absurd hjl (by have := HCN.out; have := HK5.out; omega)
            · have HE : Hid (nd.kids = st.drop lo) := by
                show _ = _
                apply List.ext_getElem
                · simp; have := HLO2.out; omega
                · intro m h h2
                  rw [HJ.out m h (by have := HLO2.out; omega) (by omega)]; simp
              have hjE : j = nd.kids.length := by omega
              have HUS2 : Hid (us = kidVals ps lo nd.kids.length) := by rw [← hjE]; exact HUS
              have HGN : Hid (runTo ns (k + 1) = some (st.take lo ++ [(k : Int)])) := by
                show _ = _
                rw [HGO.out, step_some (by rw [HK.out]; omega) (by rw [HK.out]; have := HCN.out; have := HLO2.out; omega) HFI.out (by rw [HLN.out]; exact HE.out), HLN.out]
              have hcap := ownsRow_cap hS'
              have hcapt := ownsRow_cap hT'
              have hSc := ownsRow_cut hS' lo hlole
              have hTc := ownsRow_cut hT' lo hlole
              have hwq : wo.heap.size + 1 + 1 < wr.heap.size := (hU.lt _ rfl).2
              have hwb : w.heap.size + 1 ≤ wo.heap.size := by have := (hS.lt gs rfl).1; omega
              have bcs : (lo : Int) ≤ (cs : Int) := by omega
              have bct : (lo : Int) ≤ (ct : Int) := by omega
              have hsl : ∀ W : World, (Instr.slice 60 (.slice (some ⟨gs, 0, none⟩) st.length cs) none (some (.int .i64 (lo : Int))) none).run Tryz.prog W = .ok (.slice (some ⟨gs, 0, none⟩) lo cs) W := fun W => by
                rw [run_slice_h W 60 (some ⟨gs, 0, none⟩) st.length cs (by kernel_rfl) .i64 (lo : Int) (by omega) bcs]
                simp [sliced, go_sem]
              have hslt : ∀ W : World, (Instr.slice 52 (.slice (some ⟨gt, 0, none⟩) st.length ct) none (some (.int .i64 (lo : Int))) none).run Tryz.prog W = .ok (.slice (some ⟨gt, 0, none⟩) lo ct) W := fun W => by
                rw [run_slice_h W 52 (some ⟨gt, 0, none⟩) st.length ct (by kernel_rfl) .i64 (lo : Int) (by omega) bct]
                simp [sliced, go_sem]
              clear HUS HJ hjE hj
              go_wp2_with fail
              have h0 : nd.kids.length = 0 := by have := HCN.out; have := HK5.out; omega
              have HSTN : Hid (Stands ns (k + 1) (st.take lo ++ [(k : Int)]) (ts.take lo ++ [(Tr.leaf nd.k nd.s)])) := HS0.out lo (by rw [HK.out]; have := HCN.out; omega) HFI.out (List.eq_nil_of_length_eq_zero h0) (by have := HST2.out; have := HLO2.out; omega)
              have u0 := hU.cellAt 0 (by omega)
              have u1 := hU.cellAt 1 (by omega)
              rw [HUS2.out, h0] at u0 u1
              simp [kidVals] at u0 u1
              clear h0
              have g1 : ¬ gs = wo.heap.size := by omega
              have g2 : ¬ gs = wo.heap.size + 1 + 1 := by omega
              go_region_held3 (fun w' => w'.cell? ⟨wo.heap.size, 0, none⟩ = some (.int .i64 nd.k) ∧ w'.cell? ⟨wo.heap.size, 1, none⟩ = some (.string nd.s) ∧ w'.cell? ⟨wo.heap.size + 1 + 1, 0, none⟩ = some (.pointer none) ∧ w'.cell? ⟨wo.heap.size + 1 + 1, 1, none⟩ = some (.pointer none))
                (first
                  | go_keep
                  | (go_split_ands
                     refine ⟨?_, ?_, ?_, ?_⟩
                     · (rw [hgrow.cell_far _ (by simp; omega) (by simp [Value.ownBlock]; omega)]; assumption)
                     · (rw [hgrow.cell_far _ (by simp; omega) (by simp [Value.ownBlock]; omega)]; assumption)
                     · (rw [hgrow.cell_far _ (by simp; omega) (by simp [Value.ownBlock]; omega)]; assumption)
                     · (rw [hgrow.cell_far _ (by simp; omega) (by simp [Value.ownBlock]; omega)]; assumption))
                  | fail)
                (first
                  | (go_at_call 80; refine (make_leaf nd.k nd.s _).mono ?_; rintro e w2 ⟨rfl, nq2, rfl⟩)
                  | (refine step_append_lies _ (by rfl) _ _ _ (by rfl) (w.heap.size + 1) 69 i71 (.pointer none) 1 8 Tryz.underlying60 hi71 hz71 hs71 hb71 rfl (by omega) (.slice (some ⟨gs, 0, none⟩) lo cs) lo ((ps.map ptrV).take lo) (by rfl) (ownsRow_drewN ((hSc.alloc _).alloc _) _) ⟨wr.heap.size + 1, 0, none⟩ 1 1 [.pointer (some ⟨wr.heap.size, 0, none⟩)] (by rfl) (by rfl) (World.news_of_block (cs := #[.pointer (some ⟨wr.heap.size, 0, none⟩)]) (t := 69) (fr := (0, 0)) (alloc2_block wr _ _ _)) (by simp [Value.oneCell']) (by omega) (by unfold maxLen; omega) (by omega) (by simp; omega) (wr.heap.size + 1 + 1) (by simp) ?_; intro gg cap2 w3 hown3 hgrow hat hlt3)
                    | fail)
              have hgts : gt ≠ gs := rows_ne hT' hS' (by decide)
              have hT3 : w3.ownsRow (w.heap.size + 1) 3 1 (.slice (some ⟨gt, 0, none⟩) lo ct) lo ((st.map (Value.int .i64)).take lo) := (ownsRow_drewN ((hTc.alloc _).alloc _) _).kept hgrow (.inr (by simp [Value.ownBlock]; exact hgts))
              have hsw3 : wr.heap.size + 1 + 1 ≤ w3.heap.size := by have := hgrow.size; simpa using this
              have HG3 := hide hgrow
              have HOWN3 := hide hown3
              clear hgrow hown3 u0 u1 hat hlt3
              go_wp2_with (at_builtin; refine wpList_append_lies _ rfl _ _ 52 rfl (w.heap.size + 1) 3 i3 (.int .i64 0) 1 8 Tryz.underlying52 hi3 hz3 hs3 hb3 rfl (by omega) (.slice (some ⟨gt, 0, none⟩) lo ct) lo ((st.map (Value.int .i64)).take lo) rfl (hT3.alloc _) ⟨w3.heap.size, 0, none⟩ 1 1 [.int .i64 (k : Int)] rfl rfl ?c1 ?c2 (by omega) ?c3 ?c4 ?c5 (w3.heap.size + 1) (by simp) ?_)
              case c1 => exact cell_one_new _ _ _
              case c2 => first | rfl | (intro u hu; simp at hu; subst hu; rfl)
              case c3 => unfold maxLen; omega
              case c4 => omega
              case c5 => simp; omega
              intro g4 cap4 w4 hown4 hgrow4 hat4 hlt4
              have HBH := hide (show Behind wr w3 w4 _ _ _ _ gs gt from ⟨HG3.out, row_tag (ownsRow_drewN ((hSc.alloc _).alloc _) _), hgrow4, row_tag (hT3.alloc _)⟩)
              have hggt : gg ≠ gt := rows_ne HOWN3.out hT3 (by decide)
              have HS4 := hide ((HOWN3.out.alloc _).kept hgrow4 (.inr (by simp [Value.ownBlock]; exact hggt)))
              have HOWN4 := hide hown4
              have HLEN : Hid ((st.take lo ++ [(k : Int)]).length = lo + 1) := by show _ = _; simp; omega
              have HLENP : Hid ((ps.take lo ++ [wr.heap.size]).length = lo + 1) := by show _ = _; have := HPS.out; simp; omega
              have HTRN := hide (HBH.out.trees (t := (Tr.leaf nd.k nd.s)) hbq HTR.out lo (by have := HPS.out; omega) ⟨by omega, new_block _ _ _ _⟩)
              have HBXN := hide (HBH.out.cell (keep_cell hbq hbox) (by have := (hS.lt gs rfl).1; omega) (by have := (hT.lt gt rfl).1; omega))
              have HBLN := hide (HBH.out.below (hbel.trans (hbq.mono hbel.size)) (by have := (hS.lt gs rfl).1; omega) (by have := (hT.lt gt rfl).1; omega))
              clear hgrow4 hown4 hat4 hlt4
              go_wp2_with fail
              go_roundw
              case rel => exact ⟨k + 1, st.take lo ++ [(k : Int)], ts.take lo ++ [(Tr.leaf nd.k nd.s)], ps.take lo ++ [wr.heap.size], gg, cap2, g4, cap4, by omega, by go_num, HGN, HSTN, by rw [HLEN.out]; omega, by show _ = _; rw [HLEN.out, HLENP.out], by rw [HLEN.out], by rw [HLEN.out], by rw [HLEN.out, List.map_append, List.map_take]; exact HS4.out, by rw [HLEN.out, List.map_append, List.map_take]; exact HOWN4.out, HTRN, HBXN.out, HBLN.out⟩
              case measure => simp [intOf]; omega
      · have e5 : (nd.k == 5) = false := beq_eq_false_iff_ne.2 hk5
        have n5 : (nd.k != 5) = true := by simp [hk5]
        cases hemp : nd.s.toList.isEmpty
        · have HF : Hid (lvlB ns = false) := HNO.out (step_none1 (.inr (.inr (.inl (by rw [fieldsB, if_neg hk5]; exact hemp)))))
          clear hk5
          go_wp2_with fail
          go_ret
          exact ⟨.inl ⟨HF.out, rfl⟩, by repeat (first | exact hbel | apply Below.drew | apply below_drewN | refine bel_alloc ?_ _)⟩
        · have HFI : Hid (fieldsB nd = true) := by show _ = true; rw [fieldsB, if_neg hk5]; exact hemp
          clear hk5
          have hmk : ∀ W : World, (Instr.makeSlice 60 (.int .i64 2) (.int .i64 2)).run Tryz.prog W = .ok (.slice (some ⟨W.heap.size, 0, none⟩) 2 2) (W.alloc (.cells #[.pointer none, .pointer none] 69)) := fun W => by kernel_rfl
          go_wp2_with fail
          obtain ⟨lo, helo⟩ : ∃ lo : Nat, (st.length : Int) - (nd.kids.length : Int) = (lo : Int) := ⟨st.length - nd.kids.length, by omega⟩
          have hlo2 : lo + nd.kids.length = st.length := by omega
          have HLO2 := hide hlo2
          have hlole : lo ≤ st.length := by omega
          have hkl2 : nd.kids.length ≤ 2 := by have := HCN.out; omega
          have HLN : Hid (st.length - (kidsN nd.k).toNat = lo) := by show _ = _; rw [HK.out]; have := HCN.out; omega
          rw [helo]
          have HELO := hide helo
          clear helo hlo2
          obtain ⟨wo, hwo⟩ : ∃ x, x = wr := ⟨_, rfl⟩
          subst hwo
          have hgs : gs < wo.heap.size := (hS.lt gs rfl).2
          have hgt : gt < wo.heap.size := (hT.lt gt rfl).2
          go_loopw [9] (fun i wq => ∃ (j : Nat) (us : List Value), j ≤ nd.kids.length ∧ i = .int .i64 j ∧ Hid (∀ m (h : m < nd.kids.length) (h2 : lo + m < st.length), m < j → nd.kids[m] = st[lo + m]) ∧ wq.ownsRow (w.heap.size + 1) 69 1 (.slice (some ⟨wo.heap.size + 1 + 1, 0, none⟩) 2 2) 2 us ∧ Hid (us = kidVals ps lo j) ∧ Below wo.heap.size wo wq ∧ wq.cell? ⟨wo.heap.size, 0, none⟩ = some (.int .i64 nd.k) ∧ wq.cell? ⟨wo.heap.size, 1, none⟩ = some (.string nd.s) ∧ wq.cell? ⟨wo.heap.size, 2, none⟩ = some (.slice ka nd.kids.length kc)) (fun i _ => nd.kids.length - (intOf i).toNat)
          case atStart =>
            have hr := World.ownsRow_lit (base := w.heap.size + 1) (e := 69) (size := 1) ((wo.alloc (.cells #[.int .i64 nd.k, .string nd.s, .slice ka nd.kids.length kc] 117)).alloc (.cells #[.int .i64 0, .int .i64 0, .int .i64 1, .int .i64 2, .int .i64 2, .int .i64 0] 3)) #[.pointer none, .pointer none] 2 (by have := hbel.size; have := hgs; have := (hS.lt gs rfl).1; simp; omega) (by unfold maxLen; omega) rfl
            simp only [World.size_alloc] at hr
            refine ⟨0, _, by omega, rfl, fun m _ _ h => by omega, hr.drew, rfl, (bel_alloc (bel_alloc (bel_alloc (Below.refl _ _) _) _) _).drew, ?_, ?_, ?_⟩
            all_goals
              show World.cell? (World.alloc (World.alloc (World.alloc _ _) _) _) _ = _
              simp [go_sem]
          case round =>
            obtain ⟨j, us, hj, rfl, HJ, hU, HUS, hbq, c0', c1', c2'⟩ := hrel
            have hT' := row_keep hbq hT
            have hS' := row_keep hbq hS
            by_cases hjl : j < nd.kids.length
            · have hk0 := HKV.out
              obtain ⟨ka', kc', hkv', _, _, hkc⟩ := hk0
              obtain ⟨kb, ko, rfl, hkcell⟩ := hkc (by omega)
              simp only [Value.slice.injEq] at hkv'
              obtain ⟨rfl, _, _⟩ := hkv'
              have k1 := keep_cell hbq (hkcell j hjl)
              have hlj : lo + j < st.length := by have := HLO2.out; omega
              have t1 := hT'.cellAt (lo + j) (by omega)
              rw [List.getElem?_map, List.getElem?_eq_getElem hlj] at t1
              simp only [Option.map_some] at t1
              have bj : (j : Int) < (nd.kids.length : Int) := by omega
              have bl : (lo : Int) + (j : Int) < (st.length : Int) := by omega
              have bz : (0 : Int) ≤ (lo : Int) + (j : Int) := by omega
              have ez : ((lo : Int) + (j : Int)).toNat = lo + j := by omega
              have ew : IntKind.i64.wrap ((lo : Int) + (j : Int)) = (lo : Int) + (j : Int) := by rw [IntKind.wrap_i64]; omega
              have HKV2 := HKV
              clear hkcell HKV
              by_cases he : nd.kids[j] = st[lo + j]
              · have hne : (nd.kids[j] != st[lo + j]) = false := by simp [he]
                have HJ2 : Hid (∀ m (h : m < nd.kids.length) (h2 : lo + m < st.length), m < j + 1 → nd.kids[m] = st[lo + m]) := by
                  intro m h h2 hm
                  by_cases e : m = j
                  · subst e; exact he
                  · exact HJ.out m h h2 (by omega)
                have hpl : lo + j < ps.length := by have := HPS.out; omega
                have s1 := hS'.cellAt (lo + j) (by omega)
                rw [List.getElem?_map, List.getElem?_eq_getElem hpl] at s1
                simp only [Option.map_some, ptrV] at s1
                have hul := hU.1
                have f1 := hU.frozenAt j
                have e1 := hU.cellAt j (by omega)
                rw [List.getElem?_eq_getElem (by omega)] at e1
                have hst2 := (hU.stored j (.pointer (some ⟨ps[lo + j], 0, none⟩))).1
                have HUS2 : Hid (us.set j (.pointer (some ⟨ps[lo + j], 0, none⟩)) = kidVals ps lo (j + 1)) := by
                  show _ = _
                  rw [HUS.out]; exact kidVals_set ps lo j hpl (by omega)
                have bj2 : (j : Int) < 2 := by omega
                clear he HJ HUS
                go_wp2_with fail
                go_quiet (fail)
                go_wp2_with fail
                go_roundw
                case rel => exact ⟨j + 1, _, by omega, by go_num, HJ2, hst2, HUS2, (below_drewN hbq nq).setCell (p := ⟨_, _, _⟩) (by show wo.heap.size ≤ wo.heap.size + 1 + 1; omega) _, by rw [cell_set (by dsimp only; omega)]; exact c0', by rw [cell_set (by dsimp only; omega)]; exact c1', by rw [cell_set (by dsimp only; omega)]; exact c2'⟩
                case measure => simp [intOf]; omega
              · have hne : (nd.kids[j] != st[lo + j]) = true := by simp [he]
                have HF : Hid (lvlB ns = false) := HNO.out (step_none1 (.inr (.inr (.inr (by
                  rw [HLN.out]; intro e; apply he
                  have h3 : (st.drop lo)[j]'(by simp; omega) = st[lo + j] := by simp
                  rw [← h3]
                  exact List.getElem_of_eq e hjl)))))
                clear he HJ HUS
                go_wp2_with fail
                go_quiet (fail)
                go_wp2_with fail
                go_ret
                exact ⟨.inl ⟨HF.out, rfl⟩, below_drewN (hbel.trans (hbq.mono hbel.size)) _⟩
            · have HE : Hid (nd.kids = st.drop lo) := by
                show _ = _
                apply List.ext_getElem
                · simp; have := HLO2.out; omega
                · intro m h h2
                  rw [HJ.out m h (by have := HLO2.out; omega) (by omega)]; simp
              have hjE : j = nd.kids.length := by omega
              have HUS2 : Hid (us = kidVals ps lo nd.kids.length) := by rw [← hjE]; exact HUS
              have HGN : Hid (runTo ns (k + 1) = some (st.take lo ++ [(k : Int)])) := by
                show _ = _
                rw [HGO.out, step_some (by rw [HK.out]; omega) (by rw [HK.out]; have := HCN.out; have := HLO2.out; omega) HFI.out (by rw [HLN.out]; exact HE.out), HLN.out]
              have hcap := ownsRow_cap hS'
              have hcapt := ownsRow_cap hT'
              have hSc := ownsRow_cut hS' lo hlole
              have hTc := ownsRow_cut hT' lo hlole
              have hwq : wo.heap.size + 1 + 1 < wr.heap.size := (hU.lt _ rfl).2
              have hwb : w.heap.size + 1 ≤ wo.heap.size := by have := (hS.lt gs rfl).1; omega
              have bcs : (lo : Int) ≤ (cs : Int) := by omega
              have bct : (lo : Int) ≤ (ct : Int) := by omega
              have hsl : ∀ W : World, (Instr.slice 60 (.slice (some ⟨gs, 0, none⟩) st.length cs) none (some (.int .i64 (lo : Int))) none).run Tryz.prog W = .ok (.slice (some ⟨gs, 0, none⟩) lo cs) W := fun W => by
                rw [run_slice_h W 60 (some ⟨gs, 0, none⟩) st.length cs (by kernel_rfl) .i64 (lo : Int) (by omega) bcs]
                simp [sliced, go_sem]
              have hslt : ∀ W : World, (Instr.slice 52 (.slice (some ⟨gt, 0, none⟩) st.length ct) none (some (.int .i64 (lo : Int))) none).run Tryz.prog W = .ok (.slice (some ⟨gt, 0, none⟩) lo ct) W := fun W => by
                rw [run_slice_h W 52 (some ⟨gt, 0, none⟩) st.length ct (by kernel_rfl) .i64 (lo : Int) (by omega) bct]
                simp [sliced, go_sem]
              clear HUS HJ hjE hj
              go_wp2_with fail
              rcases (show nd.kids.length = 0 ∨ nd.kids.length = 1 ∨ nd.kids.length = 2 from by omega) with h0 | h0 | h0
              · have HSTN : Hid (Stands ns (k + 1) (st.take lo ++ [(k : Int)]) (ts.take lo ++ [(Tr.leaf nd.k nd.s)])) := HS0.out lo (by rw [HK.out]; have := HCN.out; omega) HFI.out (List.eq_nil_of_length_eq_zero h0) (by have := HST2.out; have := HLO2.out; omega)
                have u0 := hU.cellAt 0 (by omega)
                have u1 := hU.cellAt 1 (by omega)
                rw [HUS2.out, h0] at u0 u1
                simp [kidVals] at u0 u1
                clear h0
                have g1 : ¬ gs = wo.heap.size := by omega
                have g2 : ¬ gs = wo.heap.size + 1 + 1 := by omega
                go_region_held3 (fun w' => w'.cell? ⟨wo.heap.size, 0, none⟩ = some (.int .i64 nd.k) ∧ w'.cell? ⟨wo.heap.size, 1, none⟩ = some (.string nd.s) ∧ w'.cell? ⟨wo.heap.size + 1 + 1, 0, none⟩ = some (.pointer none) ∧ w'.cell? ⟨wo.heap.size + 1 + 1, 1, none⟩ = some (.pointer none))
                  (first
                    | go_keep
                    | (go_split_ands
                       refine ⟨?_, ?_, ?_, ?_⟩
                       · (rw [hgrow.cell_far _ (by simp; omega) (by simp [Value.ownBlock]; omega)]; assumption)
                       · (rw [hgrow.cell_far _ (by simp; omega) (by simp [Value.ownBlock]; omega)]; assumption)
                       · (rw [hgrow.cell_far _ (by simp; omega) (by simp [Value.ownBlock]; omega)]; assumption)
                       · (rw [hgrow.cell_far _ (by simp; omega) (by simp [Value.ownBlock]; omega)]; assumption))
                    | fail)
                  (first
                    | (go_at_call 80; refine (make_leaf nd.k nd.s _).mono ?_; rintro e w2 ⟨rfl, nq2, rfl⟩)
                    | (refine step_append_lies _ (by rfl) _ _ _ (by rfl) (w.heap.size + 1) 69 i71 (.pointer none) 1 8 Tryz.underlying60 hi71 hz71 hs71 hb71 rfl (by omega) (.slice (some ⟨gs, 0, none⟩) lo cs) lo ((ps.map ptrV).take lo) (by rfl) (ownsRow_drewN ((hSc.alloc _).alloc _) _) ⟨wr.heap.size + 1, 0, none⟩ 1 1 [.pointer (some ⟨wr.heap.size, 0, none⟩)] (by rfl) (by rfl) (World.news_of_block (cs := #[.pointer (some ⟨wr.heap.size, 0, none⟩)]) (t := 69) (fr := (0, 0)) (alloc2_block wr _ _ _)) (by simp [Value.oneCell']) (by omega) (by unfold maxLen; omega) (by omega) (by simp; omega) (wr.heap.size + 1 + 1) (by simp) ?_; intro gg cap2 w3 hown3 hgrow hat hlt3)
                    | fail)
                have hgts : gt ≠ gs := rows_ne hT' hS' (by decide)
                have hT3 : w3.ownsRow (w.heap.size + 1) 3 1 (.slice (some ⟨gt, 0, none⟩) lo ct) lo ((st.map (Value.int .i64)).take lo) := (ownsRow_drewN ((hTc.alloc _).alloc _) _).kept hgrow (.inr (by simp [Value.ownBlock]; exact hgts))
                have hsw3 : wr.heap.size + 1 + 1 ≤ w3.heap.size := by have := hgrow.size; simpa using this
                have HG3 := hide hgrow
                have HOWN3 := hide hown3
                clear hgrow hown3 u0 u1 hat hlt3
                go_wp2_with (at_builtin; refine wpList_append_lies _ rfl _ _ 52 rfl (w.heap.size + 1) 3 i3 (.int .i64 0) 1 8 Tryz.underlying52 hi3 hz3 hs3 hb3 rfl (by omega) (.slice (some ⟨gt, 0, none⟩) lo ct) lo ((st.map (Value.int .i64)).take lo) rfl (hT3.alloc _) ⟨w3.heap.size, 0, none⟩ 1 1 [.int .i64 (k : Int)] rfl rfl ?c1 ?c2 (by omega) ?c3 ?c4 ?c5 (w3.heap.size + 1) (by simp) ?_)
                case c1 => exact cell_one_new _ _ _
                case c2 => first | rfl | (intro u hu; simp at hu; subst hu; rfl)
                case c3 => unfold maxLen; omega
                case c4 => omega
                case c5 => simp; omega
                intro g4 cap4 w4 hown4 hgrow4 hat4 hlt4
                have HBH := hide (show Behind wr w3 w4 _ _ _ _ gs gt from ⟨HG3.out, row_tag (ownsRow_drewN ((hSc.alloc _).alloc _) _), hgrow4, row_tag (hT3.alloc _)⟩)
                have hggt : gg ≠ gt := rows_ne HOWN3.out hT3 (by decide)
                have HS4 := hide ((HOWN3.out.alloc _).kept hgrow4 (.inr (by simp [Value.ownBlock]; exact hggt)))
                have HOWN4 := hide hown4
                have HLEN : Hid ((st.take lo ++ [(k : Int)]).length = lo + 1) := by show _ = _; simp; omega
                have HLENP : Hid ((ps.take lo ++ [wr.heap.size]).length = lo + 1) := by show _ = _; have := HPS.out; simp; omega
                have HTRN := hide (HBH.out.trees (t := (Tr.leaf nd.k nd.s)) hbq HTR.out lo (by have := HPS.out; omega) ⟨by omega, new_block _ _ _ _⟩)
                have HBXN := hide (HBH.out.cell (keep_cell hbq hbox) (by have := (hS.lt gs rfl).1; omega) (by have := (hT.lt gt rfl).1; omega))
                have HBLN := hide (HBH.out.below (hbel.trans (hbq.mono hbel.size)) (by have := (hS.lt gs rfl).1; omega) (by have := (hT.lt gt rfl).1; omega))
                clear hgrow4 hown4 hat4 hlt4
                go_wp2_with fail
                go_roundw
                case rel => exact ⟨k + 1, st.take lo ++ [(k : Int)], ts.take lo ++ [(Tr.leaf nd.k nd.s)], ps.take lo ++ [wr.heap.size], gg, cap2, g4, cap4, by omega, by go_num, HGN, HSTN, by rw [HLEN.out]; omega, by show _ = _; rw [HLEN.out, HLENP.out], by rw [HLEN.out], by rw [HLEN.out], by rw [HLEN.out, List.map_append, List.map_take]; exact HS4.out, by rw [HLEN.out, List.map_append, List.map_take]; exact HOWN4.out, HTRN, HBXN.out, HBLN.out⟩
                case measure => simp [intOf]; omega
              · have hpl0 : lo < ps.length := by have := HPS.out; have := HLO2.out; omega
                have htl0 : lo < ts.length := by have := HST2.out; have := HLO2.out; omega
                have HSTN : Hid (Stands ns (k + 1) (st.take lo ++ [(k : Int)]) (ts.take lo ++ [(Tr.one nd.k nd.s ts[lo])])) := HS1.out lo (by rw [HK.out]; have := HCN.out; omega) HFI.out HE.out (by have := HST2.out; have := HLO2.out; omega)
                have u0 := hU.cellAt 0 (by omega)
                have u1 := hU.cellAt 1 (by omega)
                rw [HUS2.out, h0, kidVals_one ps lo hpl0] at u0 u1
                simp [ptrV] at u0 u1
                have hta := (HTR.out.2 lo hpl0 htl0).keep hbq
                have h4a := hta.cell4
                generalize hpa : ps[lo] = pa at *
                have HTA := hide hta
                have hsa := (ts[lo]).sz_le
                clear hta hpa
                clear h0
                have g1 : ¬ gs = wo.heap.size := by omega
                have g2 : ¬ gs = wo.heap.size + 1 + 1 := by omega
                go_region_held3 (fun w' => w'.cell? ⟨wo.heap.size, 0, none⟩ = some (.int .i64 nd.k) ∧ w'.cell? ⟨wo.heap.size, 1, none⟩ = some (.string nd.s) ∧ w'.cell? ⟨wo.heap.size + 1 + 1, 0, none⟩ = some (.pointer (some ⟨pa, 0, none⟩)) ∧ w'.cell? ⟨wo.heap.size + 1 + 1, 1, none⟩ = some (.pointer none))
                  (first
                    | go_keep
                    | (go_split_ands
                       refine ⟨?_, ?_, ?_, ?_⟩
                       · (rw [hgrow.cell_far _ (by simp; omega) (by simp [Value.ownBlock]; omega)]; assumption)
                       · (rw [hgrow.cell_far _ (by simp; omega) (by simp [Value.ownBlock]; omega)]; assumption)
                       · (rw [hgrow.cell_far _ (by simp; omega) (by simp [Value.ownBlock]; omega)]; assumption)
                       · (rw [hgrow.cell_far _ (by simp; omega) (by simp [Value.ownBlock]; omega)]; assumption))
                    | fail)
                  (first
                    | (go_at_call 80; refine (make_one nd.k nd.s pa (ts[lo]).sz _ (by exact h4a) hsa).mono ?_; rintro e w2 ⟨rfl, nq2, rfl⟩)
                    | (refine step_append_lies _ (by rfl) _ _ _ (by rfl) (w.heap.size + 1) 69 i71 (.pointer none) 1 8 Tryz.underlying60 hi71 hz71 hs71 hb71 rfl (by omega) (.slice (some ⟨gs, 0, none⟩) lo cs) lo ((ps.map ptrV).take lo) (by rfl) (ownsRow_drewN ((hSc.alloc _).alloc _) _) ⟨wr.heap.size + 1, 0, none⟩ 1 1 [.pointer (some ⟨wr.heap.size, 0, none⟩)] (by rfl) (by rfl) (World.news_of_block (cs := #[.pointer (some ⟨wr.heap.size, 0, none⟩)]) (t := 69) (fr := (0, 0)) (alloc2_block wr _ _ _)) (by simp [Value.oneCell']) (by omega) (by unfold maxLen; omega) (by omega) (by simp; omega) (wr.heap.size + 1 + 1) (by simp) ?_; intro gg cap2 w3 hown3 hgrow hat hlt3)
                    | fail)
                have hgts : gt ≠ gs := rows_ne hT' hS' (by decide)
                have hT3 : w3.ownsRow (w.heap.size + 1) 3 1 (.slice (some ⟨gt, 0, none⟩) lo ct) lo ((st.map (Value.int .i64)).take lo) := (ownsRow_drewN ((hTc.alloc _).alloc _) _).kept hgrow (.inr (by simp [Value.ownBlock]; exact hgts))
                have hsw3 : wr.heap.size + 1 + 1 ≤ w3.heap.size := by have := hgrow.size; simpa using this
                have HG3 := hide hgrow
                have HOWN3 := hide hown3
                clear hgrow hown3 u0 u1 hat hlt3
                go_wp2_with (at_builtin; refine wpList_append_lies _ rfl _ _ 52 rfl (w.heap.size + 1) 3 i3 (.int .i64 0) 1 8 Tryz.underlying52 hi3 hz3 hs3 hb3 rfl (by omega) (.slice (some ⟨gt, 0, none⟩) lo ct) lo ((st.map (Value.int .i64)).take lo) rfl (hT3.alloc _) ⟨w3.heap.size, 0, none⟩ 1 1 [.int .i64 (k : Int)] rfl rfl ?c1 ?c2 (by omega) ?c3 ?c4 ?c5 (w3.heap.size + 1) (by simp) ?_)
                case c1 => exact cell_one_new _ _ _
                case c2 => first | rfl | (intro u hu; simp at hu; subst hu; rfl)
                case c3 => unfold maxLen; omega
                case c4 => omega
                case c5 => simp; omega
                intro g4 cap4 w4 hown4 hgrow4 hat4 hlt4
                have HBH := hide (show Behind wr w3 w4 _ _ _ _ gs gt from ⟨HG3.out, row_tag (ownsRow_drewN ((hSc.alloc _).alloc _) _), hgrow4, row_tag (hT3.alloc _)⟩)
                have hggt : gg ≠ gt := rows_ne HOWN3.out hT3 (by decide)
                have HS4 := hide ((HOWN3.out.alloc _).kept hgrow4 (.inr (by simp [Value.ownBlock]; exact hggt)))
                have HOWN4 := hide hown4
                have HLEN : Hid ((st.take lo ++ [(k : Int)]).length = lo + 1) := by show _ = _; simp; omega
                have HLENP : Hid ((ps.take lo ++ [wr.heap.size]).length = lo + 1) := by show _ = _; have := HPS.out; simp; omega
                have HTRN := hide (HBH.out.trees (t := (Tr.one nd.k nd.s ts[lo])) hbq HTR.out lo (by have := HPS.out; omega) ⟨by omega, pa, new_block _ _ _ _, (HTA.out.keep (below_drewN (((Below.refl _ wr).alloc hbq.size _).alloc (by have := hbq.size; simp; omega) _) _)).mono (by have := hbq.size; omega)⟩)
                have HBXN := hide (HBH.out.cell (keep_cell hbq hbox) (by have := (hS.lt gs rfl).1; omega) (by have := (hT.lt gt rfl).1; omega))
                have HBLN := hide (HBH.out.below (hbel.trans (hbq.mono hbel.size)) (by have := (hS.lt gs rfl).1; omega) (by have := (hT.lt gt rfl).1; omega))
                clear hgrow4 hown4 hat4 hlt4
                go_wp2_with fail
                go_roundw
                case rel => exact ⟨k + 1, st.take lo ++ [(k : Int)], ts.take lo ++ [(Tr.one nd.k nd.s ts[lo])], ps.take lo ++ [wr.heap.size], gg, cap2, g4, cap4, by omega, by go_num, HGN, HSTN, by rw [HLEN.out]; omega, by show _ = _; rw [HLEN.out, HLENP.out], by rw [HLEN.out], by rw [HLEN.out], by rw [HLEN.out, List.map_append, List.map_take]; exact HS4.out, by rw [HLEN.out, List.map_append, List.map_take]; exact HOWN4.out, HTRN, HBXN.out, HBLN.out⟩
                case measure => simp [intOf]; omega
              · have hpl0 : lo + 1 < ps.length := by have := HPS.out; have := HLO2.out; omega
                have htl0 : lo + 1 < ts.length := by have := HST2.out; have := HLO2.out; omega
                have HSTN : Hid (Stands ns (k + 1) (st.take lo ++ [(k : Int)]) (ts.take lo ++ [(Tr.two nd.k nd.s ts[lo] ts[lo + 1])])) := HS2.out lo (by rw [HK.out]; have := HCN.out; omega) HFI.out HE.out (by have := HST2.out; have := HLO2.out; omega)
                have u0 := hU.cellAt 0 (by omega)
                have u1 := hU.cellAt 1 (by omega)
                rw [HUS2.out, h0, kidVals_two ps lo hpl0] at u0 u1
                simp [ptrV] at u0 u1
                have hta := (HTR.out.2 lo (by omega) (by omega)).keep hbq
                have htb := (HTR.out.2 (lo + 1) hpl0 htl0).keep hbq
                have h4a := hta.cell4
                have h4b := htb.cell4
                generalize hpa : ps[lo] = pa at *
                generalize hpb : ps[lo + 1] = pb at *
                have HTA := hide hta
                have HTB := hide htb
                have hsa := (ts[lo]).sz_le
                have hsb := (ts[lo + 1]).sz_le
                clear hta htb hpa hpb
                clear h0
                have g1 : ¬ gs = wo.heap.size := by omega
                have g2 : ¬ gs = wo.heap.size + 1 + 1 := by omega
                go_region_held3 (fun w' => w'.cell? ⟨wo.heap.size, 0, none⟩ = some (.int .i64 nd.k) ∧ w'.cell? ⟨wo.heap.size, 1, none⟩ = some (.string nd.s) ∧ w'.cell? ⟨wo.heap.size + 1 + 1, 0, none⟩ = some (.pointer (some ⟨pa, 0, none⟩)) ∧ w'.cell? ⟨wo.heap.size + 1 + 1, 1, none⟩ = some (.pointer (some ⟨pb, 0, none⟩)))
                  (first
                    | go_keep
                    | (go_split_ands
                       refine ⟨?_, ?_, ?_, ?_⟩
                       · (rw [hgrow.cell_far _ (by simp; omega) (by simp [Value.ownBlock]; omega)]; assumption)
                       · (rw [hgrow.cell_far _ (by simp; omega) (by simp [Value.ownBlock]; omega)]; assumption)
                       · (rw [hgrow.cell_far _ (by simp; omega) (by simp [Value.ownBlock]; omega)]; assumption)
                       · (rw [hgrow.cell_far _ (by simp; omega) (by simp [Value.ownBlock]; omega)]; assumption))
                    | fail)
                  (first
                    | (go_at_call 80; refine (make_two nd.k nd.s pa (ts[lo]).sz pb (ts[lo + 1]).sz _ (by exact h4a) hsa (by exact h4b) hsb).mono ?_; rintro e w2 ⟨rfl, nq2, rfl⟩)
                    | (refine step_append_lies _ (by rfl) _ _ _ (by rfl) (w.heap.size + 1) 69 i71 (.pointer none) 1 8 Tryz.underlying60 hi71 hz71 hs71 hb71 rfl (by omega) (.slice (some ⟨gs, 0, none⟩) lo cs) lo ((ps.map ptrV).take lo) (by rfl) (ownsRow_drewN ((hSc.alloc _).alloc _) _) ⟨wr.heap.size + 1, 0, none⟩ 1 1 [.pointer (some ⟨wr.heap.size, 0, none⟩)] (by rfl) (by rfl) (World.news_of_block (cs := #[.pointer (some ⟨wr.heap.size, 0, none⟩)]) (t := 69) (fr := (0, 0)) (alloc2_block wr _ _ _)) (by simp [Value.oneCell']) (by omega) (by unfold maxLen; omega) (by omega) (by simp; omega) (wr.heap.size + 1 + 1) (by simp) ?_; intro gg cap2 w3 hown3 hgrow hat hlt3)
                    | fail)
                have hgts : gt ≠ gs := rows_ne hT' hS' (by decide)
                have hT3 : w3.ownsRow (w.heap.size + 1) 3 1 (.slice (some ⟨gt, 0, none⟩) lo ct) lo ((st.map (Value.int .i64)).take lo) := (ownsRow_drewN ((hTc.alloc _).alloc _) _).kept hgrow (.inr (by simp [Value.ownBlock]; exact hgts))
                have hsw3 : wr.heap.size + 1 + 1 ≤ w3.heap.size := by have := hgrow.size; simpa using this
                have HG3 := hide hgrow
                have HOWN3 := hide hown3
                clear hgrow hown3 u0 u1 hat hlt3
                go_wp2_with (at_builtin; refine wpList_append_lies _ rfl _ _ 52 rfl (w.heap.size + 1) 3 i3 (.int .i64 0) 1 8 Tryz.underlying52 hi3 hz3 hs3 hb3 rfl (by omega) (.slice (some ⟨gt, 0, none⟩) lo ct) lo ((st.map (Value.int .i64)).take lo) rfl (hT3.alloc _) ⟨w3.heap.size, 0, none⟩ 1 1 [.int .i64 (k : Int)] rfl rfl ?c1 ?c2 (by omega) ?c3 ?c4 ?c5 (w3.heap.size + 1) (by simp) ?_)
                case c1 => exact cell_one_new _ _ _
                case c2 => first | rfl | (intro u hu; simp at hu; subst hu; rfl)
                case c3 => unfold maxLen; omega
                case c4 => omega
                case c5 => simp; omega
                intro g4 cap4 w4 hown4 hgrow4 hat4 hlt4
                have HBH := hide (show Behind wr w3 w4 _ _ _ _ gs gt from ⟨HG3.out, row_tag (ownsRow_drewN ((hSc.alloc _).alloc _) _), hgrow4, row_tag (hT3.alloc _)⟩)
                have hggt : gg ≠ gt := rows_ne HOWN3.out hT3 (by decide)
                have HS4 := hide ((HOWN3.out.alloc _).kept hgrow4 (.inr (by simp [Value.ownBlock]; exact hggt)))
                have HOWN4 := hide hown4
                have HLEN : Hid ((st.take lo ++ [(k : Int)]).length = lo + 1) := by show _ = _; simp; omega
                have HLENP : Hid ((ps.take lo ++ [wr.heap.size]).length = lo + 1) := by show _ = _; have := HPS.out; simp; omega
                have HTRN := hide (HBH.out.trees (t := (Tr.two nd.k nd.s ts[lo] ts[lo + 1])) hbq HTR.out lo (by have := HPS.out; omega) ⟨by omega, pa, pb, new_block _ _ _ _, (HTA.out.keep (below_drewN (((Below.refl _ wr).alloc hbq.size _).alloc (by have := hbq.size; simp; omega) _) _)).mono (by have := hbq.size; omega), (HTB.out.keep (below_drewN (((Below.refl _ wr).alloc hbq.size _).alloc (by have := hbq.size; simp; omega) _) _)).mono (by have := hbq.size; omega)⟩)
                have HBXN := hide (HBH.out.cell (keep_cell hbq hbox) (by have := (hS.lt gs rfl).1; omega) (by have := (hT.lt gt rfl).1; omega))
                have HBLN := hide (HBH.out.below (hbel.trans (hbq.mono hbel.size)) (by have := (hS.lt gs rfl).1; omega) (by have := (hT.lt gt rfl).1; omega))
                clear hgrow4 hown4 hat4 hlt4
                go_wp2_with fail
                go_roundw
                case rel => exact ⟨k + 1, st.take lo ++ [(k : Int)], ts.take lo ++ [(Tr.two nd.k nd.s ts[lo] ts[lo + 1])], ps.take lo ++ [wr.heap.size], gg, cap2, g4, cap4, by omega, by go_num, HGN, HSTN, by rw [HLEN.out]; omega, by show _ = _; rw [HLEN.out, HLENP.out], by rw [HLEN.out], by rw [HLEN.out], by rw [HLEN.out, List.map_append, List.map_take]; exact HS4.out, by rw [HLEN.out, List.map_append, List.map_take]; exact HOWN4.out, HTRN, HBXN.out, HBLN.out⟩
                case measure => simp [intOf]; omega
    · have hke : k = ns.length := by omega
      have HR2 : Hid (runTo ns ns.length = some st) := by have := HR.out; rwa [hke] at this
      have HST2 : Hid (Stands ns ns.length st ts) := by have := HST.out; rwa [hke] at this
      clear hke
      by_cases h1 : st.length = 1
      · have hlt1 := HST2.out.len
        obtain ⟨t, rfl⟩ := one_of_len (show ts.length = 1 by omega)
        obtain ⟨pp, rfl⟩ := one_of_len (show ps.length = 1 by have := HPS.out; omega)
        obtain ⟨hf1, hf2, hf3, hf4⟩ := HST2.out.all
        have HLV : Hid (lvlB ns = decide ((t.names []).length ≤ 6)) := by show _ = _; rw [hf3]; simp [lvlB, HR2.out, h1]; omega
        have hcell := hS.cellAt 0 (by omega)
        have hcell' : wr.cell? ⟨gs, 0, none⟩ = some (.pointer (some ⟨pp, 0, none⟩)) := by rw [hcell]; rfl
        have hgs := lt_cell hcell'
        have htree : TreeAt wr.heap.size wr pp t := HTR.out.2 0 (by simp) (by simp)
        have hq1 : ((st.length : Int) != 1) = false := by simp; omega
        have hpos : (0 : Int) < (st.length : Int) := by omega
        have hrow0 := World.ownsRow_lit (base := wr.heap.size) (e := 9) (size := 1) wr #[] 0 (Nat.le_refl _) (by unfold maxLen; omega) rfl
        have HRW := hide hrow0
        have HTE := hide (htree.keep ((Below.refl wr.heap.size wr).alloc (Nat.le_refl _) (.cells #[] 9)))
        have HF := hide (And.intro hf1 (And.intro hf2 (And.intro hf3 hf4)))
        have hc64 : t.cnt ≤ 64 := by omega
        clear hcell hrow0 hf1 hf2 hf3 hf4 htree h1 hlt1
        go_wp2_with fail
        refine (l1Names_any t pp _ _ [] wr.heap.size HTE.out HRW.out (by simp) (by simp; omega)).mono ?_
        rintro e w2 ⟨v2, rfl, hown2, hb2⟩
        obtain ⟨a2, cap2, hv2⟩ := row_form hown2
        rw [hv2]
        have hbw : Below wr.heap.size wr w2 := ((Below.refl wr.heap.size wr).alloc (Nat.le_refl _) _).trans hb2
        have q1 := hbw.cell (p := ⟨gs, 0, none⟩) hgs
        rw [hcell'] at q1
        by_cases h6 : (t.names []).length ≤ 6
        · have d6 : decide (6 < ((t.names []).length : Int)) = false := by simp; omega
          have HL : Hid (lvlB ns = true) := by show _ = true; rw [HLV.out]; simp [h6]
          clear hown2 hv2
          have HB2 := hide hb2
          clear hb2
          go_wp2_with fail
          go_ret
          exact ⟨.inr ⟨HL.out, pp, t, rfl, ((HTE.out.keep HB2.out).mono hbw.size), HF.out⟩, hbel.trans (hbw.mono hbel.size)⟩
        · have d6 : decide (6 < ((t.names []).length : Int)) = true := by simp; omega
          have HL : Hid (lvlB ns = false) := by show _ = false; rw [HLV.out]; simp; omega
          clear hb2 hown2 hv2
          go_wp2_with fail
          go_ret
          exact ⟨.inl ⟨HL.out, rfl⟩, hbel.trans (hbw.mono hbel.size)⟩
      · have hq1 : ((st.length : Int) != 1) = true := by rw [bne_iff_ne]; omega
        have HL : Hid (lvlB ns = false) := by show _ = false; simp [lvlB, HR2.out, h1]
        clear h1
        go_wp2_with fail
        go_ret
        exact ⟨.inl ⟨HL.out, rfl⟩, hbel⟩
end Go.Proofs.YtcagcfhnbphggaaGreatDoor
