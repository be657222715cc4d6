/- What the specification's Tokens answers. -/
import Derived.Test.YtmdcdapjjodpiaaDoorImt
namespace Go.Proofs.YtmdcdapjjodpiaaDoor
open Go.ChangeShapes Go.WideShapes Go.ChangeAt Go.RowKit

theorem conv_all {w : World} {v : Value} {T : ByteArray} (h : BytesV w v T) : (convert 22 9 v).run Tryd.prog w = .ok (.string T) w := by
  obtain ⟨a, cap, rfl, h1, h2, h3⟩ := h
  by_cases h0 : 0 < T.size
  · obtain ⟨b, o, rfl, hb⟩ := h3 h0
    exact Lib.run_convert_whole w 22 5 9 (by kernel_rfl) (by kernel_rfl) (by kernel_rfl) b o T hb cap
  · have hz : T.size = 0 := by omega
    have hT : T = ⟨#[]⟩ := by
      apply ByteArray.ext
      exact Array.eq_empty_of_size_eq_zero hz
    rw [hz, hT, run_convert_bytes_string w 22 9 5 _ 0 cap (by kernel_rfl) (by kernel_rfl) (by kernel_rfl)]
    cases a <;> simp [Conv.bytesToString, loadCells] <;> rfl
theorem made_row2 {base : Nat} (w : World) (h : base ≤ w.heap.size) : TkRow base (w.alloc (.cells #[] 29)) (.slice (some ⟨w.heap.size, 0, none⟩) 0 0) [] :=
  World.ownsRow_made _ _ _ h (by unfold maxLen; omega) rfl
theorem made_row (w : World) : TkRow w.heap.size (w.alloc (.cells #[] 29)) (.slice (some ⟨w.heap.size, 0, none⟩) 0 0) [] :=
  World.ownsRow_made _ _ _ (Nat.le_refl _) (by unfold maxLen; omega) rfl
set_option maxRecDepth 20000 in
set_option maxHeartbeats 8000000 in
theorem specTokens_any (v : Value) (T : ByteArray) (w : World) (h : BytesV w v T) :
    Calls Tryd.prog 5 #[v] w fun e w' => TokOut (tokens T) w e w' := by
  have HV := hide h
  obtain ⟨a, cap, rfl, hcap, hcm, hb⟩ := h
  unfold maxLen at hcm
  obtain ⟨i0, hi0, hz0, hz1, hz2⟩ := info_parts Tryd.info29
  have HW1 : Hid (Below w.heap.size w (w.alloc (.cells #[] 29))) := bel_alloc (Below.refl _ _) _
  have HM := hide (made_row w)
  clear hb
  by_cases hT : 20000 < T.size
  · have HE : Hid (tokens T = ([], 3, 0)) := by show _ = _; unfold tokens; rw [if_neg (by omega)]
    have hT' : (20000 : Int) < T.size := by omega
    go_enter Tryd.func5, Tryd.ntmps5
    go_wp2_with fail
    refine bodyPost_ret (results_tmp3 Tryd.results5 _ _ _) rfl ?_
    rw [HE.out]
    exact ⟨_, rfl, HM.out, HW1.out⟩
  · have HE : Hid (tokens T = scan T 0 []) := by show _ = _; unfold tokens; rw [if_pos (by omega)]
    have hT' : ¬ (20000 : Int) < T.size := by omega
    have hcv := conv_all (HV.out.keep HW1.out)
    go_enter Tryd.func5, Tryd.ntmps5
    go_wp2_with fail
    clear hcv
    go_loopw [5, 7] (fun tv iv wr => ∃ (k : Nat) (acc : List Tk), k ≤ T.size ∧ acc.length ≤ k ∧ iv = .int .i64 k ∧ Hid (TkRow w.heap.size wr tv acc) ∧ Hid (scan T k acc = scan T 0 []) ∧ Hid (Below w.heap.size w wr)) (fun _ iv _ => T.size - (intOf iv).toNat)
    case atStart => exact ⟨0, [], by omega, by simp, rfl, HM.out, rfl, HW1.out⟩
    case round =>
      obtain ⟨k, acc, hk, hacc, rfl, HR, HS, HW⟩ := hrel
      obtain ⟨ta, tc, rfl⟩ := row_form HR.out
      by_cases hlt : k < T.size
      · have hlt' : (k : Int) < T.size := by omega
        have e0 := bN_eq T k hlt
        obtain ⟨q, hq⟩ : ∃ q, q = blankB (bN T k) := ⟨_, rfl⟩
        have HQ := hide hq
        rw [e0] at hq
        obtain ⟨wo, rfl⟩ : ∃ wo, wo = wr := ⟨wr, rfl⟩
        go_upto_region 7 with fail
        go_cut [42] from 17 to 75 (fun u wx => u = .bool q ∧ wx = wo)
        case first =>
          unfold blankB at hq
          by_cases h32 : (T[k].toNat : Int) = 32
          · have b1 : ((T[k].toNat : Int) == 32) = true := by simp [h32]
            have HQ2 : Hid (q = true) := by show _ = _; rw [hq]; simp [h32]
            clear hq e0 h32
            go_wp2_with fail
            go_meet
            exact ⟨by rw [HQ2.out], rfl⟩
          · have b1 : ((T[k].toNat : Int) == 32) = false := by simp [h32]
            by_cases h9 : (T[k].toNat : Int) = 9
            · have b2 : ((T[k].toNat : Int) == 9) = true := by simp [h9]
              have HQ2 : Hid (q = true) := by show _ = _; rw [hq]; simp [h9]
              clear hq e0 h9 h32
              go_wp2_with fail
              go_meet
              exact ⟨by rw [HQ2.out], rfl⟩
            · have b2 : ((T[k].toNat : Int) == 9) = false := by simp [h9]
              by_cases h10 : (T[k].toNat : Int) = 10
              · have b3 : ((T[k].toNat : Int) == 10) = true := by simp [h10]
                have HQ2 : Hid (q = true) := by show _ = _; rw [hq]; simp [h10]
                clear hq e0 h9 h32 h10
                go_wp2_with fail
                go_meet
                exact ⟨by rw [HQ2.out], rfl⟩
              · have b3 : ((T[k].toNat : Int) == 10) = false := by simp [h10]
                have HQ2 : Hid (q = ((T[k].toNat : Int) == 13)) := by show _ = _; rw [hq, Bool.eq_iff_iff]; simp [h32, h9, h10]
                clear hq e0 h9 h32 h10
                go_wp2_with fail
                all_goals
                  go_meet
                  first
                    | exact ⟨by rw [HQ2.out], rfl⟩
                    | exact ⟨by rw [HQ2.out]; simp_all, rfl⟩
        case rest =>
          obtain ⟨rfl, hwc⟩ := hcut
          have hwc := hwc.symm
          subst hwc
          cases q
          · have hbl : blankB (bN T k) = false := HQ.out.symm
            have hsz := ext_size T k T.size (by omega) (Nat.le_refl _)
            have HP : Calls Tryd.prog 12 #[.string (T.extract k T.size), .string ⟨#[45, 45]⟩] wo _ := starts_any wo T dashB k (by omega) (by decide)
            cases hpd : preB dashB T k
            · rw [hpd] at HP
              have HP2 := hide HP
              have HK := spToken_any T k wo hlt (by omega)
              have lwo := HW.out.size
              cases htok : tokAt T k with
              | none =>
                have HE2 : Hid (tokens T = ([], 4, k)) := by
                  show _ = _
                  rw [HE.out, ← HS.out]
                  exact scan_none hlt hbl hpd htok
                rw [htok] at HK
                have HK2 := hide HK
                clear HP HK hpd htok hbl hz0 hz1 hz2 hi0 hq e0 HQ
                go_wp2_with (first
                  | (go_at_call 12; refine HP2.out.mono ?_; rintro e w' ⟨rfl, hw⟩; have hw := hw.symm; subst hw)
                  | (go_at_call 13; refine HK2.out.mono ?_; rintro e w3 ⟨⟨K, S, N, P, E, rfl, hsp⟩, hb3⟩; have HB3 := hide hb3; have hsp : E = 0 := hsp; have hsb : (E == 0) = true := beq_iff_eq.2 hsp; clear hb3 hsp)
                  | fail)
                refine bodyPost_ret (results_tmp3 Tryd.results5 _ _ _) rfl ?_
                rw [HE2.out]
                have hm := made_row2 (base := w.heap.size) (w3.alloc (.cells #[.int .i64 K, .string S, .int .i64 N, .int .i64 P] 29)) (by have := HB3.out.size; simp; omega)
                rw [World.size_alloc] at hm
                exact ⟨_, rfl, hm, bel_alloc (bel_alloc (bel_trans HW.out HB3.out) _) _⟩
              | some x =>
                obtain ⟨tk, en⟩ := x
                obtain ⟨g1, g2, g3, g4, g5, g6⟩ := tok_at hlt htok
                have HS2 := hide ((scan_some (acc := acc) hlt hbl hpd htok).symm.trans HS.out)
                rw [htok] at HK
                have HK2 := hide HK
                have HTK0 := hide (tkC_snoc acc tk)
                clear HP HK hpd htok hbl g5 g6 g4 g3 HS hq e0 HQ
                go_wp2_with (first
                  | (go_at_call 12; refine HP2.out.mono ?_; rintro e w' ⟨rfl, hw⟩; have hw := hw.symm; subst hw)
                  | (go_at_call 13; refine HK2.out.mono ?_; rintro e w3 ⟨⟨K, S, N, P, E, rfl, hsp⟩, hb3⟩
                     have HB3 := hide hb3
                     have hsp : K = tk.k ∧ S = tk.s ∧ N = tk.n ∧ P = tk.p ∧ E = (en : Nat) := hsp
                     have HSP := hide hsp
                     have hE := hsp.2.2.2.2
                     have hsb : (E == 0) = false := beq_eq_false_iff_ne.2 (by omega)
                     have HR3 := hide (row_keep hb3 HR.out)
                     have HW3 := hide (bel_trans HW.out hb3)
                     have lw3 := HW3.out.size
                     have HE3 := hide hE
                     clear hb3 hsp hE)
                  | (at_builtin; refine wpList_append_own _ rfl _ _ 24 rfl w.heap.size 29 i0 (.agg #[.int .i64 0, .string ⟨#[]⟩, .int .i64 0, .int .i64 0]) 4 40 Tryd.underlying24 hi0 hz0 hz1 hz2 rfl (by decide) _ acc.length (tkC acc) rfl ((HR3.out.alloc _).alloc _) ⟨w3.heap.size + 1, 0, none⟩ 1 1 [.int .i64 K, .string S, .int .i64 N, .int .i64 P] rfl rfl ?c1 ?c2 ?c3 ?c4 ?c5 ?_)
                  | fail)
                case c1 => exact World.news_of_block (cs := #[.int .i64 K, .string S, .int .i64 N, .int .i64 P]) (t := 29) (fr := (0, 0)) (alloc2_block w3 _ _)
                case c2 => intro u hu; simp at hu; rcases hu with rfl | rfl | rfl | rfl <;> rfl
                case c3 => unfold maxLen; omega
                case c4 => omega
                case c5 => simp; omega
                intro tv6 w6 hown6 hgrow6 _
                have HW6 := hide ((bel_alloc (bel_alloc HW3.out (.cells #[.int .i64 K, .string S, .int .i64 N, .int .i64 P] 29)) (.cells #[.int .i64 K, .string S, .int .i64 N, .int .i64 P] 29)).grown hgrow6 (by simp; omega) (fun j hj => (HR3.out.lt j hj).1))
                have HR6 : Hid (TkRow w.heap.size w6 tv6 (acc ++ [tk])) := by
                  show World.ownsRow _ _ _ _ _ _ _
                  rw [HTK0.out, List.length_append, ← HSP.out.1, ← HSP.out.2.1, ← HSP.out.2.2.1, ← HSP.out.2.2.2.1]
                  exact hown6
                clear hown6 hgrow6
                obtain ⟨ta6, tc6, rfl⟩ := row_form HR6.out
                go_wp2_with fail
                go_roundw
                case rel => exact ⟨en, acc ++ [tk], by omega, by simp; omega, by rw [HE3.out], HR6.out, HS2.out, HW6.out⟩
                case measure => have := HE3.out; simp [intOf]; omega
            · have hst := scan_note (acc := acc) hlt hbl hpd
              obtain ⟨g1, g2, g3⟩ := hst
              rw [g3] at HS
              rw [hpd] at HP
              have HP2 := hide HP
              obtain ⟨S, hS⟩ : ∃ S, S = stopAt (noteP T) T.size k := ⟨_, rfl⟩
              rw [← hS] at HS g1 g2
              have HS0 := hide hS.symm
              have HG1 := hide g1
              clear HP hbl hpd g3 hS hq e0 HQ g1
              go_wp2_with (first
                | (go_at_call 12; refine HP2.out.mono ?_; rintro e w' ⟨rfl, hw⟩; have hw := hw.symm; subst hw)
                | fail)
              go_loop [7] (fun jv => ∃ j : Nat, j ≤ T.size ∧ jv = .int .i64 j ∧ Hid (stopAt (noteP T) T.size j = S)) (fun jv => T.size - (intOf jv).toNat)
              case atStart => exact ⟨k, by omega, rfl, HS0.out⟩
              case round =>
                obtain ⟨j, hj, rfl, HJ⟩ := hrel
                by_cases hjl : j < T.size
                · have hjl' : (j : Int) < T.size := by omega
                  have ej := bN_eq T j hjl
                  by_cases h10 : bN T j = 10
                  · have hst := HJ.out
                    rw [stop_not (by simp [noteP, h10])] at hst
                    have HJ2 := hide hst
                    have hb : ((T[j].toNat : Int) != 10) = false := by rw [← ej]; simp [h10]
                    clear hst h10 ej
                    have HSE := hide (show scan T j acc = scan T 0 [] by rw [HJ2.out]; exact HS.out)
                    have HJK := hide (show k < j by rw [HJ2.out]; exact HG1.out)
                    clear HJ2
                    go_wp2_with fail
                    go_roundw
                    case rel => exact ⟨j, acc, by omega, by have := HJK.out; omega, rfl, HR.out, HSE.out, HW.out⟩
                    case measure => have := HJK.out; simp [intOf]; omega
                  · have hst := HJ.out
                    rw [stop_step hjl (by simp [noteP, h10])] at hst
                    have HJ2 := hide hst
                    have hb : ((T[j].toNat : Int) != 10) = true := by rw [← ej]; simp [h10]
                    clear hst h10 ej
                    go_wp2_with fail
                    go_round
                    case rel => exact ⟨j + 1, by omega, by go_num, HJ2.out⟩
                    case measure => simp [intOf]; omega
                · have hst := HJ.out
                  rw [stop_end (by omega)] at hst
                  have HJ2 := hide hst
                  clear hst
                  have hjl' : ¬ (j : Int) < T.size := by omega
                  have HSE := hide (show scan T j acc = scan T 0 [] by rw [HJ2.out]; exact HS.out)
                  have HJK := hide (show k < j by rw [HJ2.out]; exact HG1.out)
                  clear HJ2
                  go_wp2_with fail
                  go_roundw
                  case rel => exact ⟨j, acc, by omega, by have := HJK.out; omega, rfl, HR.out, HSE.out, HW.out⟩
                  case measure => have := HJK.out; simp [intOf]; omega
          · have HS2 := hide ((scan_blank (acc := acc) hlt HQ.out.symm).symm.trans HS.out)
            clear HS hq
            go_wp2_with fail
            go_roundw
            case rel => exact ⟨k + 1, acc, by omega, by omega, by go_num, HR.out, HS2.out, HW.out⟩
            case measure => simp [intOf]; omega
      · have HE2 : Hid (tokens T = (acc, 0, 0)) := by
          show _ = _
          rw [HE.out, ← HS.out]
          exact scan_end (by omega)
        have hlt' : ¬ (k : Int) < T.size := by omega
        go_wp2_with fail
        refine bodyPost_ret (results_tmp3 Tryd.results5 _ _ _) rfl ?_
        rw [HE2.out]
        exact ⟨_, rfl, HR.out, HW.out⟩
end Go.Proofs.YtmdcdapjjodpiaaDoor
