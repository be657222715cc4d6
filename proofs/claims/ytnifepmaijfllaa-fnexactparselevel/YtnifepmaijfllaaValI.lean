/- What the program's LevelValue answers: nothing where the level is not valid or the names and values do not fit it, else its number. -/
import Derived.Test.YtnifepmaijfllaaValS
import Derived.Test.YtnifepmaijfllaaSignI
import Derived.BigQuiet
namespace Go.Proofs.Ytnifepmaijfllaa
open Go.ChangeShapes Go.WideShapes Go.ChangeAt Go.RowKit

/-- The worlds in which the two captured variables hold the names and the values. -/
def CapAt (bn bv : Nat) (vn vv : Value) (names : List ByteArray) (vals : List Int) (w : World) : Prop :=
  w.cell? ⟨bn, 0, none⟩ = some vn ∧ w.cell? ⟨bv, 0, none⟩ = some vv ∧ StrsAt w vn names ∧ IntsAt w vv vals
theorem cap_grows (bn bv : Nat) (vn vv : Value) (names : List ByteArray) (vals : List Int) : Grows (CapAt bn bv vn vv names vals) :=
  fun _ _ h hb => ⟨keep_cell hb h.1, keep_cell hb h.2.1, h.2.2.1.keep hb, h.2.2.2.keep hb⟩

set_option maxHeartbeats 1000000 in
theorem valueFn_any (bn bv : Nat) (vn vv : Value) (names : List ByteArray) (vals : List Int) (s : ByteArray) (w : World) (h : CapAt bn bv vn vv names vals w) (hl : names.length = vals.length) (hs : hasB names s = true) :
    Calls Try.prog 79 #[.string s, .pointer (some ⟨bv, 0, none⟩), .pointer (some ⟨bn, 0, none⟩)] w fun e w' => e = .returned (.int .i64 (valAt names vals s)) ∧ ∃ n, w' = w.drewN n := by
  obtain ⟨c1, c2, hn, hv⟩ := h
  obtain ⟨h0, h1⟩ := atS_lt names s hs
  obtain ⟨i, hi⟩ : ∃ i : Nat, atS names s = i := ⟨(atS names s).toNat, by omega⟩
  have HN : Hid (∀ n, StrsAt (w.drewN n) vn names) := fun n => hn.keep (below_drewN (Below.refl _ _) n)
  obtain ⟨an, cn, rfl, _, _, _⟩ := hn
  obtain ⟨av, cv, rfl, _, hcv, hvc⟩ := hv
  have hil : i < vals.length := by omega
  obtain ⟨b, off, rfl, hcell⟩ := hvc (by omega)
  have hc := hcell i hil
  have HI := hide hi
  have HW : Hid (valAt names vals s = vals[i]) := by
    show _ = _
    simp [valAt, HI.out, hil]
  have hlt : (i : Int) < (vals.length : Int) := by omega
  have HIX : Hid (∀ n, Calls Try.prog 80 #[.slice an names.length cn, .string s] (w.drewN n) fun e w' => e = .returned (.int .i64 (i : Int)) ∧ w' = w.drewN n) := by
    intro n
    have := index_any _ names s _ (HN.out n)
    rw [HI.out] at this
    exact this
  clear hcell hl hi h0 h1 hs hvc HN
  rw [HW.out]
  go_enter Try.func79, Try.ntmps79
  go_wp2_with fail
  go_quiet (first | (go_at_call 80; refine Calls.quiet_of_same (HIX.out _)))
  go_wp2_with fail
  go_ret
  exact ⟨rfl, _, rfl⟩

set_option maxHeartbeats 1000000 in
theorem param_val (bn bv : Nat) (vn vv : Value) (names : List ByteArray) (vals : List Int) (hl : names.length = vals.length) (s : ByteArray) (hs : hasB names s = true) :
    NumAt (.func (.func 79) #[] #[.pointer (some ⟨bv, 0, none⟩), .pointer (some ⟨bn, 0, none⟩)]) (valAt names vals) (CapAt bn bv vn vv names vals) (.param s) := by
  intro w hw
  have a0 := Try.as149_144
  have a1 := Try.as149_146
  have a2 := Try.as149_147
  have a3 := Try.as149_149
  have HF : Hid (∀ w', CapAt bn bv vn vv names vals w' → Calls Try.prog 79 #[.string s, .pointer (some ⟨bv, 0, none⟩), .pointer (some ⟨bn, 0, none⟩)] w' fun e w2 => e = .returned (.int .i64 (valAt names vals s)) ∧ ∃ n, w2 = w'.drewN n) := fun w' h => valueFn_any bn bv vn vv names vals s w' h hl hs
  have HW := hide hw
  simp only [It.val, It.num]
  clear hw hl hs
  go_enter Try.func77, Try.ntmps77
  go_wp2_with (go_at_call 79; refine (HF.out _ (cap_grows _ _ _ _ _ _ _ _ HW.out (bel_alloc (Below.refl _ _) _))).mono ?_; rintro e w' ⟨rfl, n, rfl⟩)
  go_ret
  exact ⟨rfl, below_drewN (bel_alloc (Below.refl _ _) _) _⟩

set_option maxRecDepth 10000 in
set_option maxHeartbeats 2000000 in
theorem implValue_bad (v vn vv : Value) (ns : List Nd) (names : List ByteArray) (vals : List Int) (w : World) (hns : NodesAt w v ns) (hsz : ∀ nd ∈ ns, nd.s.size ≤ maxLen) (hn : StrsAt w vn names) (hv : IntsAt w vv vals) (hl : lvlB ns = false) :
    Calls Try.prog 28 #[.agg #[v], vn, vv] w fun e w' => e = .returned (pairV (0, false)) ∧ Below w.heap.size w w' := by
  have HN := hide hns
  have HZ := hide hsz
  have HL := hide hl
  obtain ⟨a, cap, rfl, _, _, _⟩ := hns
  obtain ⟨an, cn, rfl, _, _, _⟩ := hn
  obtain ⟨av, cv, rfl, _, _, _⟩ := hv
  clear hsz hl
  have HB : Hid (∀ o1 o2 o3, Below w.heap.size w (((w.alloc o1).alloc o2).alloc o3)) := fun o1 o2 o3 => bel_alloc (bel_alloc (bel_alloc (Below.refl _ _) o1) o2) o3
  go_enter Try.func28, Try.ntmps28
  go_wp2_with fail
  refine (implLevelOk_any _ ns _ (HN.out.keep (HB.out _ _ _)) HZ.out).mono ?_
  rintro e w1 ⟨rfl, hb1⟩
  rw [HL.out]
  have hbel1 := bel_trans (HB.out _ _ _) hb1
  clear hb1
  go_wp2_with fail
  refine bodyPost_ret (results_tmp2 Try.results28 _ _ _) rfl ?_
  exact ⟨rfl, hbel1⟩

set_option maxRecDepth 10000 in
set_option maxHeartbeats 4000000 in
theorem implValue_any (v vn vv : Value) (ns : List Nd) (names : List ByteArray) (vals : List Int) (w : World) (hns : NodesAt w v ns) (hsz : ∀ nd ∈ ns, nd.s.size ≤ maxLen) (hn : StrsAt w vn names) (hv : IntsAt w vv vals) (t : Tr) (hl : lvlB ns = true) (ht : OkTree ns t) :
    Calls Try.prog 28 #[.agg #[v], vn, vv] w fun e w' => e = .returned (pairV (valueR t (namesOf ns) names vals)) ∧ Below w.heap.size w w' := by
  have HN := hide hns
  have HZ := hide hsz
  have HL := hide hl
  have HT := hide ht
  have HVN := hide hn
  have HVV := hide hv
  obtain ⟨a, cap, rfl, _, _, _⟩ := hns
  obtain ⟨an, cn, rfl, hn1, hn2, _⟩ := hn
  obtain ⟨av, cv, rfl, hv1, hv2, hvc⟩ := hv
  have HVC := hide hvc
  unfold maxLen at hn2 hv2
  have hl64 : ns.length ≤ 64 := ht.2.2.2.2.1
  have HPAR : Hid (∀ x ∈ t.params, hasB (namesOf ns) x = true) := by
    have := names_params t []
    rw [ht.2.2.1] at this
    exact this
  clear hsz hl ht hvc
  have HB : Hid (∀ o1 o2 o3, Below w.heap.size w (((w.alloc o1).alloc o2).alloc o3)) := fun o1 o2 o3 => bel_alloc (bel_alloc (bel_alloc (Below.refl _ _) o1) o2) o3
  go_enter Try.func28, Try.ntmps28
  go_wp2_with fail
  refine (implLevelOk_any _ ns _ (HN.out.keep (HB.out _ _ _)) HZ.out).mono ?_
  rintro e w1 ⟨rfl, hb1⟩
  rw [HL.out]
  have hbel1 := bel_trans (HB.out _ _ _) hb1
  have c0 := keep_cell (b := w.heap.size) (o := 0) (v := .slice a ns.length cap) hb1 (by simp [go_sem])
  have c1 := keep_cell (b := w.heap.size + 1) (o := 0) (v := .slice an names.length cn) hb1 (by simp [go_sem])
  have c2 := keep_cell (b := w.heap.size + 1 + 1) (o := 0) (v := .slice av vals.length cv) hb1 (by simp [go_sem])
  clear hb1
  by_cases hlen : names.length = vals.length
  · have q0 : ((names.length : Int) != (vals.length : Int)) = false := by simp [hlen]
    have HLN := hide hlen
    clear hlen
    go_wp2_with fail
    go_loopw [24] (fun i wr => ∃ (k : Nat), k ≤ vals.length ∧ i = .int .i64 k ∧ Hid (∀ j (h : j < vals.length), j < k → 0 ≤ vals[j] ∧ vals[j] ≤ 1000000) ∧ w1 = wr) (fun i _ => vals.length - (intOf i).toNat)
    case atStart => exact ⟨0, by omega, rfl, fun j _ h => by omega, rfl⟩
    case round =>
      obtain ⟨k, hk, rfl, HA, rfl⟩ := hrel
      by_cases hlt : k < vals.length
      · obtain ⟨b, off, rfl, hc⟩ := HVC.out (by omega)
        have d1 := keep_cell hbel1 (hc k hlt)
        have hlt' : (k : Int) < vals.length := by omega
        clear hc
        by_cases hbad : vals[k] < 0 ∨ 1000000 < vals[k]
        · have HR := hide (valueR_bad (t := t) (own := namesOf ns) (names := names) k hlt hbad)
          generalize vals[k] = q at *
          go_wp2_with fail
          all_goals first | (exfalso; omega) | (refine bodyPost_ret (results_tmp2 Try.results28 _ _ _) rfl ?_; exact ⟨ret_pair HR.out, hbel1⟩)
        · have HA2 : Hid (∀ j (h : j < vals.length), j < k + 1 → 0 ≤ vals[j] ∧ vals[j] ≤ 1000000) := by
            intro j h hj
            by_cases e : j = k
            · subst e; omega
            · exact HA.out j h (by omega)
          generalize vals[k] = q at *
          have hq1 : 0 ≤ q := by omega
          have hq2 : q ≤ 1000000 := by omega
          clear hbad
          go_wp2_with fail
          go_roundw
          case rel => exact ⟨k + 1, by omega, by go_num, HA2, by first | rfl | trivial⟩
          case measure => simp [intOf]; omega
      · have HA2 : Hid (∀ j (h : j < vals.length), 0 ≤ vals[j] ∧ vals[j] ≤ 1000000) := fun j h => HA.out j h (by omega)
        clear HA
        go_wp2_with fail
        refine (levelParams_any _ ns _ (HN.out.keep hbel1) hl64).mono ?_
        rintro e w2 ⟨vo, rfl, hstr2, hb2⟩
        have hbel2 := bel_trans hbel1 hb2
        have e0 := keep_cell hb2 c0
        have e1 := keep_cell hb2 c1
        have e2 := keep_cell hb2 c2
        have HVN2 := hide (HVN.out.keep hbel2)
        have HVV2 := hide (HVV.out.keep hbel2)
        clear hb2 c0 c1 c2
        obtain ⟨own, hown⟩ : ∃ own, own = namesOf ns := ⟨_, rfl⟩
        rw [← hown] at hstr2 HPAR
        have HO := hide hown
        clear hown
        obtain ⟨oa, oc, rfl, ho1, ho2, hoc⟩ := hstr2
        unfold maxLen at ho2
        have HOC := hide hoc
        clear hoc
        go_wp2_with fail
        go_loopw [38] (fun i wr => ∃ (k : Nat), k ≤ own.length ∧ i = .int .i64 k ∧ Hid (∀ j (h : j < own.length), j < k → hasB names own[j] = true) ∧ w2 = wr) (fun i _ => own.length - (intOf i).toNat)
        case atStart => exact ⟨0, by omega, rfl, fun j _ h => by omega, rfl⟩
        case round =>
          obtain ⟨k, hk, rfl, HA, rfl⟩ := hrel
          by_cases hlt : k < own.length
          · obtain ⟨b, off, rfl, hc⟩ := HOC.out (by omega)
            have d1 := hc k hlt
            have hlt' : (k : Int) < own.length := by omega
            clear hc
            cases hh : hasB names own[k]
            · have HR := hide (valueR_out (t := t) (vals := vals) k hlt hh)
              generalize own[k] = q at *
              go_wp2_with (go_at_call 76; refine (contains_any _ names q _ HVN2.out).mono ?_; rintro e w' ⟨rfl, hw⟩; have hw := hw.symm; subst hw; rw [hh])
              refine bodyPost_ret (results_tmp2 Try.results28 _ _ _) rfl ?_
              exact ⟨ret_pair (by rw [← HO.out]; exact HR.out), hbel2⟩
            · have HA3 : Hid (∀ j (h : j < own.length), j < k + 1 → hasB names own[j] = true) := by
                intro j h hj
                by_cases e : j = k
                · subst e; exact hh
                · exact HA.out j h (by omega)
              generalize own[k] = q at *
              go_wp2_with (go_at_call 76; refine (contains_any _ names q _ HVN2.out).mono ?_; rintro e w' ⟨rfl, hw⟩; have hw := hw.symm; subst hw; rw [hh])
              go_roundw
              case rel => exact ⟨k + 1, by omega, by go_num, HA3, by first | rfl | trivial⟩
              case measure => simp [intOf]; omega
          · have HA3 : Hid (∀ j (h : j < own.length), hasB names own[j] = true) := fun j h => HA.out j h (by omega)
            have HR := hide (valueR_ok (t := t) HLN.out HA2.out HA3.out)
            have hbd := valAt_bd names vals (fun x hx => by
                obtain ⟨j, hj, rfl⟩ := List.getElem_of_mem hx
                exact HA2.out j hj)
            have hcnt : t.it.cnt ≤ 1000 := by rw [it_cnt t HT.out.2.1, HT.out.2.2.2.1]; omega
            have NA := num_all (.func (.func 79) #[] #[.pointer (some ⟨w.heap.size + 1 + 1, 0, none⟩), .pointer (some ⟨w.heap.size + 1, 0, none⟩)]) (valAt names vals) (CapAt (w.heap.size + 1) (w.heap.size + 1 + 1) (.slice an names.length cn) (.slice av vals.length cv) names vals) (cap_grows _ _ _ _ _ _) hbd (fun s => hasB names s = true) (fun s hs => param_val _ _ _ _ names vals HLN.out s hs) t.it hcnt (fun s hs => has_all HA3.out (HPAR.out s (by rw [← it_params t HT.out.2.1]; exact hs)))
            unfold NumAt at NA
            rw [it_num _ t HT.out.2.1] at NA
            obtain ⟨Ti, vi, hvi⟩ := t.it.val_iface
            rw [hvi] at NA
            have HV := hide hvi
            have HNA := hide NA
            clear NA hvi hbd
            generalize t.weigh (valAt names vals) = res at *
            go_wp2_with fail
            refine (levelTreeOf_any _ ns t _ (HN.out.keep hbel2) HT.out.1 HT.out.2.1 hl64).mono ?_
            rintro e w3 ⟨rfl, hb3⟩
            rw [HV.out]
            have HCAP : Hid (CapAt (w.heap.size + 1) (w.heap.size + 1 + 1) (.slice an names.length cn) (.slice av vals.length cv) names vals w3) := ⟨keep_cell hb3 e1, keep_cell hb3 e2, HVN2.out.keep hb3, HVV2.out.keep hb3⟩
            have hbel3 := bel_trans hbel2 hb3
            clear hb3 e0 e1 e2
            go_wp2_with fail
            refine (HNA.out _ HCAP.out).mono ?_
            rintro e w4 ⟨rfl, hb4⟩
            have hbel4 := bel_trans hbel3 hb4
            clear hb4
            go_wp2_with fail
            refine bodyPost_ret (results_tmp2 Try.results28 _ _ _) rfl ?_
            exact ⟨ret_pair (by rw [← HO.out]; exact HR.out), hbel4⟩
  · have q0 : ((names.length : Int) != (vals.length : Int)) = true := by rw [bne_iff_ne]; omega
    have HR := hide (valueR_len (t := t) (own := namesOf ns) hlen)
    clear hlen
    go_wp2_with fail
    refine bodyPost_ret (results_tmp2 Try.results28 _ _ _) rfl ?_
    exact ⟨ret_pair HR.out, hbel1⟩
end Go.Proofs.Ytnifepmaijfllaa
