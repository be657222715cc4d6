/- What the program's TermOk answers: whether the nodes make a valid term; nothing that was there is written. -/
import Derived.Test.YtcagcfhnbphggaaGreatDoorTFn
import Derived.Test.YtcagcfhnbphggaaGreatDoorTMkW
namespace Go.Proofs.YtcagcfhnbphggaaGreatDoor
open Go.ChangeShapes Go.WideShapes Go.ChangeAt Go.RowKit

/-- Whether nodes make a valid term. -/
abbrev termB (ts : List Td) : Bool := termB' (tfieldsB nameB) ts

set_option maxRecDepth 20000 in
set_option maxHeartbeats 2000000 in
theorem implTermOk_any (v : Value) (ts : List Td) (w : World) (hns : TNodesAt w v ts) (hsz : ∀ td ∈ ts, TLens td) :
    Calls Tryz.prog 18 #[.agg #[v]] w fun e w' => e = .returned (.bool (termB ts)) ∧ Below w.heap.size w w' := by
  obtain ⟨i3, hi3, hz3, hs3, hb3⟩ := info_parts Tryz.info3
  obtain ⟨a, cap, rfl, hl, hm, hc⟩ := hns
  unfold maxLen at hm
  have H : Hid (0 < ts.length → ∃ b off, a = some ⟨b, off, none⟩ ∧ ∀ i (h : i < ts.length), TNodeAt w b (off + i * 6) ts[i]) := hc
  have HZ := hide hsz
  clear hc hsz
  by_cases h64 : 20000 < ts.length
  · have HF : Hid (termB ts = false) := by show _ = false; simp [termB, termB']; omega
    have hq64 : decide (20000 < (ts.length : Int)) = true := by simp; omega
    go_enter Tryz.func18, Tryz.ntmps18
    go_wp2_with fail
    go_ret
    exact ⟨ret_bool HF.out.symm, (Below.refl _ _).alloc (Nat.le_refl _) _⟩
  have hq64 : decide (20000 < (ts.length : Int)) = false := by simp; omega
  have hbox : (w.alloc (.cells #[.slice a ts.length cap] 31)).cell? ⟨w.heap.size, 0, none⟩ = some (.slice a ts.length cap) := by simp [go_sem]
  have HBX := hide hbox
  clear hbox
  go_enter Tryz.func18, Tryz.ntmps18
  go_wp2_with (
    at_make
    refine wpList_make_own _ rfl _ _ 52 rfl (w.heap.size + 1) 3 i3 (.int .i64 0) 1 Tryz.underlying52 hi3 hz3 hs3 .i64 .i64 (ts.length : Int) ts.length rfl rfl (by simp) (by rw [hb3]; omega) (by unfold maxLen; omega) (by simp) ?_
    intro w1 hown1 hgrow1
    have hb01 : Below (w.heap.size + 1) (w.alloc (.cells #[.slice a ts.length cap] 31)) w1 := (Below.refl _ _).grown hgrow1 (by simp) (fun k hk => by cases hk)
    have hx1 := keep_cell (hb01.mono (by simp)) HBX.out
    have HB1 := hide ((bel_alloc (Below.refl w.heap.size w) (.cells #[.slice a ts.length cap] 31)).trans (hb01.mono (by omega)))
    have HO1 := hide hown1
    clear hown1 hgrow1 hb01)
  go_loopw [3, 4, 18] (fun o r i wr => ∃ (k g gc : Nat) (st : List Int), k ≤ ts.length ∧ i = .int .i64 k ∧ o = .bool true ∧ Hid (trun (tfieldsB nameB) ts k = some st) ∧ st.length ≤ k ∧ r = .slice (some ⟨g, 0, none⟩) st.length gc ∧ Hid (OwnI (w.heap.size + 1) wr g gc st) ∧ wr.cell? ⟨w.heap.size, 0, none⟩ = some (.slice a ts.length cap) ∧ Hid (Below w.heap.size w wr)) (fun _ _ i _ => ts.length - (intOf i).toNat)
  case atStart => exact ⟨0, _, _, [], by omega, rfl, rfl, rfl, by simp, rfl, by show OwnI _ _ _ _ _; have := HO1.out; simpa [OwnI] using this, hx1, HB1.out⟩
  case round =>
    obtain ⟨k, g, gc, st, hk, rfl, rfl, HR, hsk, rfl, HO, hbox, HBL⟩ := hrel
    clear HBX HO1 HB1 hx1
    have hbs := HBL.out.size
    by_cases hlt : k < ts.length
    · obtain ⟨b, off, rfl, hc⟩ := H.out (by omega)
      obtain ⟨c1, c2, c3, c4, lv, c5, hlv0, kv, c6, hkv0⟩ := hc k hlt
      have HKW := hide hkv0
      have HLW := hide hlv0
      have c1 := keep_cell HBL.out c1
      have c2 := keep_cell HBL.out c2
      have c3 := keep_cell HBL.out c3
      have c4 := keep_cell HBL.out c4
      have c5 := keep_cell HBL.out c5
      have c6 := keep_cell HBL.out c6
      have hkv := hkv0.keep HBL.out
      have HNO := hide (term_false (tfieldsB nameB) ts k hlt st HR.out)
      have HGO := hide (trun_succ (tfieldsB nameB) ts k hlt st HR.out)
      have HS := hide (HZ.out ts[k] (by simp))
      have HKV := hide hkv
      clear hkv0
      obtain ⟨ka, kc, rfl, _, _, _⟩ := hkv
      obtain ⟨la, lc, rfl, _, _, _⟩ := hlv0
      clear hc H
      generalize ts[k] = td at *
      have hlt' : (k : Int) < ts.length := by omega
      have hgl := HO.out.lt
      have HGL := hide hgl
      have hbg : Hid (Below wr.heap.size wr (wr.alloc (.cells #[.int .i64 td.k, .int .i64 td.n, .int .i64 td.m, .string td.s, .slice la td.lv.length lc, .slice ka td.kids.length kc] 58))) := bel_alloc (Below.refl _ _) _
      have HKV1 := hide (HKV.out.keep hbg.out)
      have HO1 := hide (HO.out.keep hbg.out)
      have hkr := tkidsN_cases td.k
      have hc1 : -1 ≤ tkidsN td.k := by omega
      have hc3 : tkidsN td.k ≤ 3 := by omega
      have hst : st.length ≤ 1048576 := by omega
      clear hkr hgl
      by_cases hbad : tkidsN td.k < 0 ∨ (st.length : Int) < tkidsN td.k ∨ td.kids ≠ st.drop (st.length - (tkidsN td.k).toNat)
      · have HF : Hid (termB ts = false) := HNO.out (tstep_none _ (by rcases hbad with h | h | h <;> simp [h]))
        have HBAD := hide hbad
        clear hbad
        go_wp2_with fail
        go_region_with (first
          | (go_at_call 33; refine (termKids_any _ _).mono ?_; rintro e w' ⟨rfl, rfl⟩)
          | (go_at_call 32; refine (joinKids_bad st td.kids (w.heap.size + 1) g gc (k : Int) (tkidsN td.k) _ _ ?_ ?_ hc1 hc3 hst HBAD.out).mono ?_; exact HO1.out.keep (by repeat (first | exact Below.refl _ _ | apply Below.drew)); exact HKV1.out.keep (by repeat (first | exact Below.refl _ _ | apply Below.drew)); rintro e w3 ⟨rfl, n, rfl⟩)
          | fail)
        all_goals
          go_wp2_with fail
          go_ret
          exact ⟨ret_bool HF.out.symm, below_drewN (HBL.out.trans (hbg.out.mono hbs)) _⟩
      · obtain ⟨lo, hlo⟩ : ∃ lo : Nat, (st.length : Int) - tkidsN td.k = (lo : Int) := ⟨st.length - (tkidsN td.k).toNat, by omega⟩
        have hlo2 : lo ≤ st.length := by omega
        have hcn : 0 ≤ tkidsN td.k := by omega
        have heq : td.kids = st.drop lo := by
          rw [show st.length - (tkidsN td.k).toNat = lo from by omega] at hbad
          simp at hbad; exact hbad.2.2
        have hcs : tkidsN td.k ≤ (st.length : Int) := by omega
        have HSS := hide (fun h3 : tfieldsB nameB td = true => tstep_some (tfieldsB nameB) (i := k) hcn hcs h3 (by rw [show st.length - (tkidsN td.k).toNat = lo from by omega]; exact heq))
        have HLE : Hid (st.length - (tkidsN td.k).toNat = lo) := by show _ = _; omega
        have HLEN : Hid ((st.take lo ++ [(k : Int)]).length = lo + 1) := by show _ = _; simp; omega
        have HLO := hide hlo
        have HEQ := hide heq
        have HGL2 : Hid (¬ wr.heap.size = g) := by show ¬ _; have := HGL.out; omega
        clear hbad hlo heq
        cases hF : tfieldsB nameB td
        · have HF : Hid (termB ts = false) := HNO.out (tstep_none _ (.inr (.inr (.inl hF))))
          go_wp2_with fail
          go_region_with (first
            | (go_at_call 33; refine (termKids_any _ _).mono ?_; rintro e w' ⟨rfl, rfl⟩)
            | (go_at_call 32; refine (joinKids_good st td.kids (w.heap.size + 1) g gc lo (k : Int) (tkidsN td.k) _ _ ?_ ?_ hcn hc3 hst HLO.out HEQ.out).mono ?_; exact HO1.out.keep (by repeat (first | exact Below.refl _ _ | apply Below.drew)); exact HKV1.out.keep (by repeat (first | exact Below.refl _ _ | apply Below.drew)); rintro e w3 ⟨g3, gc3, rfl, ho3, hb3', hgr3⟩
               have m0 := hgr3.cell_far ⟨wr.heap.size, 0, none⟩ (by simp) (by simp; exact HGL2.out)
               have m1 := hgr3.cell_far ⟨wr.heap.size, 1, none⟩ (by simp) (by simp; exact HGL2.out)
               have m2 := hgr3.cell_far ⟨wr.heap.size, 2, none⟩ (by simp) (by simp; exact HGL2.out)
               have m3 := hgr3.cell_far ⟨wr.heap.size, 3, none⟩ (by simp) (by simp; exact HGL2.out)
               have m4 := hgr3.cell_far ⟨wr.heap.size, 4, none⟩ (by simp) (by simp; exact HGL2.out)
               have m5 := hgr3.cell_far ⟨wr.heap.size, 5, none⟩ (by simp) (by simp; exact HGL2.out)
               simp [go_sem] at m0 m1 m2 m3 m4 m5)
            | fail)
          all_goals
            have hbw3 := (below_drewN (HBL.out.trans (hbg.out.mono hbs)) 1).trans (hb3'.mono (by omega))
            have HKV3 := hide (HKW.out.keep hbw3)
            have HLV3 := hide (HLW.out.keep hbw3)
            go_wp2_with (go_at_call 34; refine (termFieldsOk_any td _ _ _ HLV3.out HKV3.out HS.out).mono ?_; rintro e w4 ⟨rfl, hb4⟩; rw [hF])
            go_ret
            exact ⟨ret_bool HF.out.symm, hbw3.trans (hb4.mono hbw3.size)⟩
        · have HN : Hid (trun (tfieldsB nameB) ts (k + 1) = some (st.take lo ++ [(k : Int)])) := by
            show _ = _
            rw [HGO.out, HSS.out hF, HLE.out]
          go_wp2_with fail
          go_region_with (first
            | (go_at_call 33; refine (termKids_any _ _).mono ?_; rintro e w' ⟨rfl, rfl⟩)
            | (go_at_call 32; refine (joinKids_good st td.kids (w.heap.size + 1) g gc lo (k : Int) (tkidsN td.k) _ _ ?_ ?_ hcn hc3 hst HLO.out HEQ.out).mono ?_; exact HO1.out.keep (by repeat (first | exact Below.refl _ _ | apply Below.drew)); exact HKV1.out.keep (by repeat (first | exact Below.refl _ _ | apply Below.drew)); rintro e w3 ⟨g3, gc3, rfl, ho3, hb3', hgr3⟩
               have m0 := hgr3.cell_far ⟨wr.heap.size, 0, none⟩ (by simp) (by simp; exact HGL2.out)
               have m1 := hgr3.cell_far ⟨wr.heap.size, 1, none⟩ (by simp) (by simp; exact HGL2.out)
               have m2 := hgr3.cell_far ⟨wr.heap.size, 2, none⟩ (by simp) (by simp; exact HGL2.out)
               have m3 := hgr3.cell_far ⟨wr.heap.size, 3, none⟩ (by simp) (by simp; exact HGL2.out)
               have m4 := hgr3.cell_far ⟨wr.heap.size, 4, none⟩ (by simp) (by simp; exact HGL2.out)
               have m5 := hgr3.cell_far ⟨wr.heap.size, 5, none⟩ (by simp) (by simp; exact HGL2.out)
               simp [go_sem] at m0 m1 m2 m3 m4 m5)
            | fail)
          all_goals
            have hbw3 := (below_drewN (HBL.out.trans (hbg.out.mono hbs)) 1).trans (hb3'.mono (by omega))
            have HKV3 := hide (HKW.out.keep hbw3)
            have HLV3 := hide (HLW.out.keep hbw3)
            have hz3 := hgr3.size
            have hx3 : w3.cell? ⟨w.heap.size, 0, none⟩ = some (.slice (some ⟨b, off, none⟩) ts.length cap) := by
              rw [hb3'.cell (p := ⟨w.heap.size, 0, none⟩) (by simp)]; exact keep_cell (below_drewN hbg.out 1) hbox
            have HO3 := hide ho3
            clear hgr3 hb3' ho3
            go_wp2_with (go_at_call 34; refine (termFieldsOk_any td _ _ _ HLV3.out HKV3.out HS.out).mono ?_; rintro e w4 ⟨rfl, hb4⟩; rw [hF])
            go_roundw
            case rel => exact ⟨k + 1, _, _, _, by omega, by go_num, rfl, HN, by rw [HLEN.out]; omega, by rw [HLEN.out], HO3.out.keep hb4, keep_cell hb4 hx3, hbw3.trans (hb4.mono hbw3.size)⟩
            case measure => simp [intOf]; omega
    · have HR2 : Hid (trun (tfieldsB nameB) ts ts.length = some st) := by
        have := HR.out
        rwa [show k = ts.length from by omega] at this
      have hlt' : ¬ (k : Int) < ts.length := by omega
      have HF : Hid (termB ts = decide (st.length = 1)) := by show _ = _; simp [termB, termB', HR2.out]; omega
      by_cases h1 : st.length = 1
      · have hq1 : ((st.length : Int) == 1) = true := beq_iff_eq.2 (by omega)
        have HF2 : Hid (termB ts = true) := by show _ = _; rw [HF.out]; simp [h1]
        clear h1
        go_wp2_with fail
        go_ret
        exact ⟨ret_bool HF2.out.symm, HBL.out⟩
      · have hq1 : ((st.length : Int) == 1) = false := beq_eq_false_iff_ne.2 (by omega)
        have HF2 : Hid (termB ts = false) := by show _ = _; rw [HF.out]; simp [h1]
        clear h1
        go_wp2_with fail
        go_ret
        exact ⟨ret_bool HF2.out.symm, HBL.out⟩
end Go.Proofs.YtcagcfhnbphggaaGreatDoor

/- Facts that the walk of the specification's l3Tree wants. -/
namespace Go.Proofs.YtcagcfhnbphggaaGreatDoor
open Go.ChangeShapes Go.WideShapes Go.ChangeAt Go.RowKit

theorem Tryz.info39 : (Tryz.prog.info? 39).map (fun i => (i.zero, i.size, i.bytes)) = some (some (.pointer none), 1, 8) := by kernel_rfl
theorem bad_len {st : List Int} {td : Td} (h : tkidsN td.k ≠ (td.kids.length : Int)) : tkidsN td.k < 0 ∨ (st.length : Int) < tkidsN td.k ∨ tfieldsB nameB td = false ∨ td.kids ≠ st.drop (st.length - (tkidsN td.k).toNat) := by
  by_cases h1 : tkidsN td.k < 0
  · exact .inl h1
  by_cases h2 : (st.length : Int) < tkidsN td.k
  · exact .inr (.inl h2)
  refine .inr (.inr (.inr fun e => h ?_))
  have := congrArg List.length e
  simp at this
  omega
theorem kind_of {k : Int} {n : Nat} (h : tkidsN k = (n : Int)) : 1 ≤ k ∧ k ≤ 9 := by
  by_cases h1 : k < 1 ∨ 9 < k
  · have := tkidsN_neg k h1; omega
  · omega
theorem num_of {td : Td} (h : tfieldsB nameB td = true) (hk : td.k = 1) : 0 ≤ td.n ∧ td.n ≤ 20000 := by
  unfold tfieldsB numB at h
  simp only [Bool.and_eq_true, decide_eq_true_eq] at h
  obtain ⟨⟨⟨⟨h1, h2⟩, _⟩, _⟩, _⟩ := h
  rw [hk] at h2
  exact ⟨h1, h2⟩
theorem ptr_snoc (ps : List Nat) (lo j : Nat) (h : lo + j < ps.length) : ((ps.drop lo).take j).map ptrV ++ [ptrV ps[lo + j]] = ((ps.drop lo).take (j + 1)).map ptrV := by
  have hd : j < (ps.drop lo).length := by simp; omega
  rw [List.take_succ_eq_append_getElem hd]
  simp
theorem drop_eq {ks st : List Int} {lo : Nat} (hl : ks.length + lo = st.length) (h : ∀ m (h1 : m < ks.length) (h2 : lo + m < st.length), ks[m] = st[lo + m]) : ks = st.drop lo := by
  apply List.ext_getElem
  · simp; omega
  · intro i h1 h2
    rw [h i h1 (by simp at h2; omega)]; simp
theorem drop_ne {ks st : List Int} {lo m : Nat} (h1 : m < ks.length) (h2 : lo + m < st.length) (h : ks[m] ≠ st[lo + m]) : ks ≠ st.drop lo := by
  intro e; apply h; subst e; simp
theorem sumZ_split (zs : List Zs) (lo : Nat) : sumZ (zs.take lo) + sumZ (zs.drop lo) = sumZ zs := by
  rw [← sumZ_append, List.take_append_drop]
theorem zok_next {zs : List Zs} {k n : Int} {lo : Nat} (h : ∀ z ∈ zs, ZOk z) (hn : k = 1 → 0 ≤ n ∧ n ≤ 20000) : ∀ z ∈ zs.take lo ++ [zmk k n (zs.drop lo)], ZOk z := by
  intro z hz
  rcases List.mem_append.1 hz with h1 | h1
  · exact h z (List.mem_of_mem_take h1)
  · simp at h1; subst h1; exact zmk_ok k n _ (fun z hz => h z (List.mem_of_mem_drop hz)) hn
theorem sum_next {zs : List Zs} {k n : Int} {lo : Nat} {q : Nat} (h : sumZ zs = (q : Int)) : sumZ (zs.take lo ++ [zmk k n (zs.drop lo)]) = ((q + 1 : Nat) : Int) := by
  have := sumZ_split zs lo
  rw [sumZ_append]; simp [sumZ, zmk]; omega
end Go.Proofs.YtcagcfhnbphggaaGreatDoor
