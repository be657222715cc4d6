/- The specification's Solve, walked. -/
import Derived.Test.YteedainidoldoaaSvC
import Derived.Deep.RegionHeld3
namespace Go.Proofs.Yteedainidoldoaa
open Go.ChangeShapes Go.WideShapes Go.ChangeAt Go.RowKit

theorem ints_nil (w : World) (b cap : Nat) (h : cap ≤ maxLen) : IntsAt w (.slice (some ⟨b, 0, none⟩) 0 cap) [] := ⟨_, cap, rfl, Nat.zero_le _, h, fun h => by simp at h⟩
theorem made_zero (m : Nat) : (madeCells (Value.int .i64 0).cells (m * 1)).toList = (List.replicate m (0 : Int)).map (fun k => Value.int .i64 k) := by
  rw [Nat.mul_one]
  unfold madeCells
  have e : (Value.int .i64 0).cells = #[Value.int .i64 0] := rfl
  rw [e]
  refine List.ext_getElem (by simp) (fun i h1 h2 => ?_)
  simp [Nat.mod_one]
theorem fold_take {cs : List Cn} {ks : List Int} {i : Nat} (h : i < cs.length) : (cs.take (i + 1)).foldl stepV ks = stepV ((cs.take i).foldl stepV ks) cs[i] := by
  rw [List.take_succ_eq_append_getElem h, List.foldl_append]
  rfl
theorem foldV_len (cs : List Cn) (ks : List Int) : (cs.foldl stepV ks).length = ks.length := by
  induction cs generalizing ks with
  | nil => rfl
  | cons c cs ih => rw [List.foldl_cons, ih, stepV_len]
theorem roundsV_len (cs : List Cn) (n : Nat) : ∀ k, (roundsV cs n k).length = n
  | 0 => by simp [roundsV]
  | k + 1 => by
    show (cs.foldl stepV (roundsV cs n k)).length = n
    rw [foldV_len, roundsV_len cs n k]
set_option maxRecDepth 20000 in
set_option maxHeartbeats 4000000 in
theorem specSolve_any (n : Int) (v : Value) (cs : List Cn) (w : World) (hn : ConsAt w v cs)
    (hF : ∀ (m : Nat) (W : World), n = m → consB n cs = true → Below w.heap.size w W → Calls Try.prog 22 #[.int .i64 n, v] W fun e w' => ∃ v', e = .returned v' ∧ IntsAt w' v' ((firstS m (cs.map ctC) cs.length).map (fun i : Nat => (i : Int))) ∧ Below W.heap.size W w') :
    Calls Try.prog 7 #[.int .i64 n, v] w (SoOut (solS n cs) w) := by
  obtain ⟨i3, hi3, hz3, hs3, hb3⟩ := info_parts Try.info3
  have HN := hide hn
  have HF := hide hF
  obtain ⟨a2, cap2, rfl, hlc2, hcm2, hc2⟩ := hn
  unfold maxLen at hcm2
  have H2 := hide hc2
  clear hc2 hF
  cases hok : consB n cs with
  | false =>
    have HM : Hid (solS n cs = ([], [], false)) := by show _ = _; unfold solS; rw [if_pos hok]
    go_enter Try.func7, Try.ntmps7
    go_wp2_with (go_at_call 18; refine (specConsOk_any _ _ cs _ HN.out).mono ?_; rintro e w1 ⟨rfl, hb1⟩; rw [hok])
    refine bodyPost_ret (v := .tuple #[.slice (some ⟨w1.heap.size, 0, none⟩) 0 0, .slice (some ⟨w1.heap.size + 1, 0, none⟩) 0 0, .bool false]) (by simp [results, Try.results7, go_sem]) rfl ?_
    rw [HM.out]
    exact ⟨_, _, rfl, ints_nil _ _ _ (by unfold maxLen; omega), ints_nil _ _ _ (by unfold maxLen; omega), bel_alloc (bel_alloc hb1 _) _⟩
  | true =>
    obtain ⟨⟨g1, g2, g3⟩, g4⟩ := consB_yes hok
    obtain ⟨m, rfl⟩ : ∃ m : Nat, n = m := ⟨n.toNat, by omega⟩
    have HOK := hide hok
    have HS := hide g4
    have HFI := hide (fun W h => HF.out m W rfl hok h)
    clear hok g4 g1 HF
    have hm30 : m ≤ 30 := by omega
    go_enter Try.func7, Try.ntmps7
    go_wp2_with (first
      | (go_at_call 18; refine (specConsOk_any _ _ cs _ HN.out).mono ?_; rintro e w1 ⟨rfl, hb1⟩; rw [HOK.out])
      | (at_make; refine wpList_make_full _ rfl _ _ 24 rfl w.heap.size 3 i3 (.int .i64 0) 1 Try.underlying24 hi3 hz3 hs3 .i64 .i64 _ _ m rfl rfl rfl rfl (by rw [hb3]; omega) (by unfold maxLen; omega) hb1.size ?_; intro w2 hown hgrow))
    have h1s := hb1.size
    rw [made_zero] at hown
    obtain ⟨g, hg⟩ : ∃ g, g = w1.heap.size := ⟨_, rfl⟩
    rw [← hg] at hown ⊢
    have HR0 : Hid (w2.ownsRow w.heap.size 3 1 (.slice (some ⟨g, 0, none⟩) m m) m ((roundsV cs m 0).map (fun k => Value.int .i64 k))) := hown
    have HB0 : Hid (Below w.heap.size w w2) := hb1.grown hgrow hb1.size (fun k hk => by cases hk)
    have HI0 : Hid (In0 (1000 * ((0 : Nat) * 100 : Nat)) (roundsV cs m 0)) := fun k hk => by
      have h : k ∈ List.replicate m (0 : Int) := hk
      have := List.eq_of_mem_replicate h
      subst this
      simp
    have hgl : w.heap.size ≤ g := by omega
    clear hown hgrow hb1 hg h1s
    go_loopw [8] (fun r wr => ∃ k : Nat, k ≤ m + 2 ∧ r = .int .i64 k ∧ Hid (wr.ownsRow w.heap.size 3 1 (.slice (some ⟨g, 0, none⟩) m m) m ((roundsV cs m k).map (fun k => Value.int .i64 k))) ∧ Hid (Below w.heap.size w wr) ∧ Hid (In0 (1000 * (k * 100 : Nat)) (roundsV cs m k))) (fun r _ => m + 2 - (intOf r).toNat)
    case atStart => exact ⟨0, by omega, rfl, HR0, HB0, HI0⟩
    case round =>
      clear HR0 HB0 HI0
      obtain ⟨k, hk, rfl, HR, HB, HI⟩ := hrel
      have hwk : IntKind.i64.wrap ((m : Int) + 1) = (m : Int) + 1 := by rw [IntKind.wrap_i64]; omega
      by_cases hlt : k ≤ m + 1
      · have hlt' : (k : Int) ≤ (m : Int) + 1 := by omega
        have HR1 : Hid (wr.ownsRow w.heap.size 3 1 (.slice (some ⟨g, 0, none⟩) m m) m (((cs.take 0).foldl stepV (roundsV cs m k)).map (fun k => Value.int .i64 k))) := HR
        have HI1 : Hid (In0 (1000 * (k * 100 + 0 : Nat)) ((cs.take 0).foldl stepV (roundsV cs m k))) := HI
        go_wp2_with fail
        obtain ⟨wo, hwo⟩ : ∃ wo, wo = wr := ⟨wr, rfl⟩
        go_loopw [9] (fun i wr => ∃ j : Nat, j ≤ cs.length ∧ i = .int .i64 j ∧ Hid (wr.ownsRow w.heap.size 3 1 (.slice (some ⟨g, 0, none⟩) m m) m (((cs.take j).foldl stepV (roundsV cs m k)).map (fun k => Value.int .i64 k))) ∧ Hid (Below w.heap.size w wr) ∧ Hid (In0 (1000 * (k * 100 + j : Nat)) ((cs.take j).foldl stepV (roundsV cs m k)))) (fun i _ => cs.length - (intOf i).toNat)
        case atStart => exact ⟨0, by omega, rfl, HR1, HB, HI1⟩
        case round =>
          clear HR1 HI1 HR HB HI hwo
          obtain ⟨j, hj, rfl, HR, HB, HI⟩ := hrel
          by_cases hjl : j < cs.length
          · have hjl' : (j : Int) < cs.length := by omega
            obtain ⟨b, off, rfl, hc⟩ := H2.out (by omega)
            obtain ⟨c1, c2, c3⟩ := (hc j hjl).keep HB.out
            obtain ⟨s1, s2, s3, s4, s5, s6⟩ := HS.out j hjl
            have hL : ((cs.take j).foldl stepV (roundsV cs m k)).length = m := by rw [foldV_len]; exact roundsV_len cs m k
            have HK := hide (fold_take (ks := roundsV cs m k) hjl)
            have HI3 : Hid (In0 (1000 * (k * 100 + (j + 1) : Nat)) (stepV ((cs.take j).foldl stepV (roundsV cs m k)) cs[j])) := by
              intro q hq
              have h := stepV_in (c := cs[j]) HI.out (by omega) s6 q hq
              constructor
              · exact h.1
              · have h2 := h.2
                omega
            have r0 := in0_val HI.out (by omega) cs[j].a
            obtain ⟨r1, r2⟩ := r0
            have HKI := hide (ints_row HR.out hL)
            clear hc
            rw [← HK.out] at HI3
            have HK2 := hide HK.out.symm
            clear HK
            generalize (cs.take j).foldl stepV (roundsV cs m k) = ks at *
            obtain ⟨ks2, hk2⟩ : ∃ ks2, (cs.take (j + 1)).foldl stepV (roundsV cs m k) = ks2 := ⟨_, rfl⟩
            have HKE := hide hk2
            rw [hk2] at HK2 HI3
            clear hk2
            have HI4 : Hid (In0 (1000 * (k * 100 + (j + 1) : Nat)) ks2) := HI3
            clear HI3
            generalize cs[j] = c at *
            obtain ⟨ca, cn, cb⟩ := c
            simp only at *
            obtain ⟨x, hx⟩ : ∃ x, valOf ks ca = x := ⟨_, rfl⟩
            have HV1 := hide hx
            rw [hx] at r1 r2
            have hw0 : IntKind.i64.wrap (x + cn) = x + cn := by rw [IntKind.wrap_i64]; omega
            have hw1 : IntKind.i64.wrap ((j : Int) + 1) = (j : Int) + 1 := by rw [IntKind.wrap_i64]; omega
            have HW0 := hide hw0
            clear hx
            go_wp2_with fail
            go_region_held3 (fun w' => w'.cell? ⟨b, off + j * 3, none⟩ = some (.int .i64 ca) ∧ w'.cell? ⟨b, off + j * 3 + 1, none⟩ = some (.int .i64 cn))
              (first | go_keep | fail)
              (first | (go_at_call 21; refine (l2Value_any _ ks _ _ (by exact HKI.out.keep (Below.refl wr.heap.size wr).drew) (by omega)).mono ?_; rintro e w' ⟨rfl, rfl⟩; rw [HV1.out]) | fail)
            rename_i hheld
            clear hheld c1 c2
            have c3' : wr.drew.cell? ⟨b, off + j * 3 + 2, none⟩ = some (.int .i64 cb) := c3
            have HR' := hide HR.out.drew
            have HB' : Hid (Below w.heap.size w wr.drew) := HB.out.drew
            have HKI' := hide (ints_row HR'.out hL)
            clear c3 HR HB HKI HI
            generalize wr.drew = wd at *
            by_cases h0 : cb < 0
            · have HE : Hid (ks2 = ks) := by show _ = _; rw [← HK2.out]; unfold stepV; rw [if_neg (fun h => by have := h.1; simp only at this; omega)]
              have h0' : ¬ (0 ≤ cb) := by omega
              rw [← HE.out] at HR'
              have HR2 := HR'
              clear HE HK2 HR'
              go_wp2_with fail
              go_roundw
              case rel => exact ⟨j + 1, by omega, by go_num, by rw [HKE.out]; exact HR2, HB', by rw [HKE.out]; exact HI4⟩
              case measure => simp [intOf]; omega
            · obtain ⟨q, rfl⟩ : ∃ q : Nat, cb = q := ⟨cb.toNat, by omega⟩
              have hq : q < ks.length := by omega
              have c4 := HR'.out.cellAt q (by omega)
              have f4 := HR'.out.frozenAt q
              have HST := hide (HR'.out.stored q (.int .i64 (x + cn)))
              have HG : Hid (ks.getD q 0 = ks[q]) := by show _ = _; simp [List.getD, hq]
              have e4 : (ks.map (fun k => Value.int .i64 k))[q]? = some (.int .i64 ks[q]) := by simp [hq]
              rw [e4] at c4
              clear e4
              have HQ : Hid (∀ h : ks[q] < x + cn, ks2 = ks.set q (x + cn)) := by
                intro h
                rw [← HK2.out]
                unfold stepV
                simp only
                rw [HV1.out, Int.toNat_natCast, HG.out, if_pos ⟨by omega, h⟩]
              have HQ2 : Hid (∀ h : ¬ ks[q] < x + cn, ks2 = ks) := by
                intro h
                rw [← HK2.out]
                unfold stepV
                simp only
                rw [HV1.out, Int.toNat_natCast, HG.out, if_neg (fun h2 => h h2.2)]
              have h0' : (0 : Int) ≤ q := by omega
              have hq' : (q : Int) < m := by omega
              by_cases hl : ks[q] < x + cn
              · have HE := hide (HQ.out hl)
                have HR2 : Hid ((wd.setCell ⟨g, q, none⟩ (.int .i64 (x + cn))).ownsRow w.heap.size 3 1 (.slice (some ⟨g, 0, none⟩) m m) m (ks2.map (fun k => Value.int .i64 k))) := by
                  show World.ownsRow _ _ _ _ _ _ _
                  rw [HE.out, List.map_set]
                  exact HST.out.1
                have HB2 : Hid (Below w.heap.size w (wd.setCell ⟨g, q, none⟩ (.int .i64 (x + cn)))) := HB'.out.grown HST.out.2 HB'.out.size (fun k hk => by cases hk; exact hgl)
                generalize ks[q] = y at *
                clear HE HQ HQ2 HG HST HK2 HR' HB' HKI' HV1
                go_wp2_with fail
                go_roundw
                case rel => exact ⟨j + 1, by omega, by go_num, by rw [HKE.out]; exact HR2, HB2, by rw [HKE.out]; exact HI4⟩
                case measure => simp [intOf]; omega
              · have HE := hide (HQ2.out hl)
                rw [← HE.out] at HR'
                have HR2 := HR'
                generalize ks[q] = y at *
                clear HE HQ HQ2 HG HST HK2 HR' HKI' HV1
                go_wp2_with fail
                go_roundw
                case rel => exact ⟨j + 1, by omega, by go_num, by rw [HKE.out]; exact HR2, HB', by rw [HKE.out]; exact HI4⟩
                case measure => simp [intOf]; omega
          · have hjl' : ¬ (j : Int) < cs.length := by omega
            have ej : j = cs.length := by omega
            subst ej
            have HR2 : Hid (wr.ownsRow w.heap.size 3 1 (.slice (some ⟨g, 0, none⟩) m m) m ((roundsV cs m (k + 1)).map (fun k => Value.int .i64 k))) := by
              have h := HR.out
              rw [List.take_length] at h
              exact h
            have HI2 : Hid (In0 (1000 * ((k + 1) * 100 : Nat)) (roundsV cs m (k + 1))) := by
              have h := HI.out
              rw [List.take_length] at h
              intro q hq
              have := h q hq
              constructor
              · exact this.1
              · have h2 := this.2
                omega
            have hw1 : IntKind.i64.wrap ((k : Int) + 1) = (k : Int) + 1 := by rw [IntKind.wrap_i64]; omega
            go_wp2_with fail
            go_roundw
            case rel => exact ⟨k + 1, by omega, by go_num, HR2, HB, HI2⟩
            case measure => simp [intOf]; omega
      · have hlt' : ¬ (k : Int) ≤ (m : Int) + 1 := by omega
        have ek : k = m + 2 := by omega
        subst ek
        have hL : (roundsV cs m (m + 2)).length = m := roundsV_len cs m (m + 2)
        have HKI := hide (ints_row HR.out hL)
        have HFT : Hid (Fits (roundsV cs m (m + 2))) := fun q hq => by
          have h := HI.out q hq
          have h1 := h.1
          have h2 := h.2
          constructor <;> omega
        have HN1 := hide (HN.out.keep HB.out)
        cases hmb : meetsB (roundsV cs m (m + 2)) cs with
        | true =>
          have HM : Hid (solS m cs = (roundsV cs m (m + 2), [], true)) := by
            show _ = _
            unfold solS
            rw [HOK.out, Int.toNat_natCast, hmb]
            rfl
          go_wp2_with (go_at_call 17; refine (specMeets_any _ _ _ cs _ HKI.out HN1.out HFT.out).mono ?_; rintro e w3 ⟨rfl, hb3⟩; rw [hmb])
          refine bodyPost_ret (v := .tuple #[.slice (some ⟨g, 0, none⟩) m m, .slice (some ⟨w3.heap.size, 0, none⟩) 0 0, .bool true]) (by simp [results, Try.results7, go_sem]) rfl ?_
          rw [HM.out]
          exact ⟨_, _, rfl, HKI.out.keep (bel_alloc hb3 _), ints_nil _ _ _ (by unfold maxLen; omega), bel_alloc (bel_trans HB.out hb3) _⟩
        | false =>
          have HM : Hid (solS m cs = ([], (firstS m (cs.map ctC) cs.length).map (fun i : Nat => (i : Int)), false)) := by
            show _ = _
            unfold solS
            rw [HOK.out, Int.toNat_natCast, hmb]
            rfl
          go_wp2_with (first
            | (go_at_call 17; refine (specMeets_any _ _ _ cs _ HKI.out HN1.out HFT.out).mono ?_; rintro e w3 ⟨rfl, hb3⟩; rw [hmb])
            | (go_at_call 22; refine (HFI.out _ (bel_alloc (bel_trans HB.out hb3) _)).mono ?_; rintro e w4 ⟨v4, rfl, hv4, hb4⟩))
          refine bodyPost_ret (v := .tuple #[.slice (some ⟨w3.heap.size, 0, none⟩) 0 0, v4, .bool false]) (by simp [results, Try.results7, go_sem]) rfl ?_
          rw [HM.out]
          exact ⟨_, _, rfl, ints_nil _ _ _ (by unfold maxLen; omega), hv4, bel_trans (bel_alloc (bel_trans HB.out hb3) _) hb4⟩
end Go.Proofs.Yteedainidoldoaa
