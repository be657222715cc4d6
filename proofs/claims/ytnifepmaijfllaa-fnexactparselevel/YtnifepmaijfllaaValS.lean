/- What the specification's LevelValue answers: nothing where the level is not valid or the names and values do not fit it, else its number. -/
import Derived.Test.YtnifepmaijfllaaStrS
import Derived.Test.YtnifepmaijfllaaSignS
namespace Go.Proofs.Ytnifepmaijfllaa
open Go.ChangeShapes Go.WideShapes Go.ChangeAt Go.RowKit

def valsB (vals : List Int) : Bool := vals.all (fun v => decide (0 ≤ v ∧ v ≤ 1000000))
def valueR (t : Tr) (own names : List ByteArray) (vals : List Int) : Int × Bool :=
  if names.length = vals.length ∧ valsB vals = true ∧ own.all (hasB names) = true then (t.weigh (valAt names vals), true) else (0, false)
def pairV (r : Int × Bool) : Value := .tuple #[.int .i64 r.1, .bool r.2]

theorem valueR_len {t : Tr} {own names : List ByteArray} {vals : List Int} (h : names.length ≠ vals.length) : valueR t own names vals = (0, false) := by
  unfold valueR; rw [if_neg (fun c => h c.1)]
theorem valueR_bad {t : Tr} {own names : List ByteArray} {vals : List Int} (k : Nat) (hk : k < vals.length) (h : vals[k] < 0 ∨ 1000000 < vals[k]) : valueR t own names vals = (0, false) := by
  unfold valueR; rw [if_neg]
  rintro ⟨_, h2, _⟩
  unfold valsB at h2
  rw [List.all_eq_true] at h2
  have := h2 vals[k] (by simp)
  simp at this; omega
theorem valueR_out {t : Tr} {own names : List ByteArray} {vals : List Int} (k : Nat) (hk : k < own.length) (h : hasB names own[k] = false) : valueR t own names vals = (0, false) := by
  unfold valueR; rw [if_neg]
  rintro ⟨_, _, h3⟩
  rw [List.all_eq_true] at h3
  have := h3 own[k] (by simp)
  rw [h] at this; cases this
theorem valueR_ok {t : Tr} {own names : List ByteArray} {vals : List Int} (h1 : names.length = vals.length) (h2 : ∀ j (h : j < vals.length), 0 ≤ vals[j] ∧ vals[j] ≤ 1000000) (h3 : ∀ j (h : j < own.length), hasB names own[j] = true) : valueR t own names vals = (t.weigh (valAt names vals), true) := by
  unfold valueR; rw [if_pos]
  refine ⟨h1, ?_, ?_⟩
  · unfold valsB
    rw [List.all_eq_true]
    intro x hx
    obtain ⟨j, hj, rfl⟩ := List.getElem_of_mem hx
    simpa using h2 j hj
  · rw [List.all_eq_true]
    intro x hx
    obtain ⟨j, hj, rfl⟩ := List.getElem_of_mem hx
    exact h3 j hj
theorem has_all {own names : List ByteArray} (h : ∀ j (h : j < own.length), hasB names own[j] = true) {x : ByteArray} (hx : hasB own x = true) : hasB names x = true := by
  unfold hasB at hx
  rw [List.any_eq_true] at hx
  obtain ⟨y, hy, he⟩ := hx
  simp at he
  subst he
  obtain ⟨j, hj, rfl⟩ := List.getElem_of_mem hy
  exact h j hj
theorem ret_pair {r : Int × Bool} {a : Int} {b : Bool} (h : r = (a, b)) : Ending.returned (.tuple #[.int .i64 a, .bool b]) = .returned (pairV r) := by rw [h]; rfl

set_option maxRecDepth 10000 in
set_option maxHeartbeats 2000000 in
theorem specValue_any (v vn vv : Value) (ns : List Nd) (names : List ByteArray) (vals : List Int) (w : World) (hns : NodesAt w v ns) (hsz : ∀ nd ∈ ns, nd.s.size ≤ maxLen) (hn : StrsAt w vn names) (hv : IntsAt w vv vals) :
    Calls Try.prog 25 #[.agg #[v], vn, vv] w fun e w' => ((lvlB ns = false ∧ e = .returned (pairV (0, false))) ∨ (lvlB ns = true ∧ ∃ t, OkTree ns t ∧ e = .returned (pairV (valueR t (namesOf ns) names vals)))) ∧ Below w.heap.size w w' := by
  have HN : Hid (∀ o, NodesAt (w.alloc o) v ns) := fun o => hns.keep (bel_alloc (Below.refl _ _) o)
  have HZ := hide hsz
  have HVN := hide hn
  have HVV := hide hv
  obtain ⟨a, cap, rfl, _, _, _⟩ := hns
  obtain ⟨an, cn, rfl, hn1, hn2, _⟩ := hn
  obtain ⟨av, cv, rfl, hv1, hv2, hvc⟩ := hv
  unfold maxLen at hn2 hv2
  have HVC := hide hvc
  clear hsz hvc
  go_enter Try.func25, Try.ntmps25
  go_wp2_with fail
  refine (l1Tree_any _ ns _ (HN.out _) HZ.out).mono ?_
  rintro e w1 ⟨(⟨hl, rfl⟩ | ⟨hl, g, t, rfl, htr, hf, hok, hnm, hct⟩), hb⟩
  · have hbel := (bel_alloc (Below.refl w.heap.size w) _).trans (hb.mono (by simp))
    go_wp2_with (go_at_call 65; refine (none_none _).mono ?_; rintro e w' ⟨rfl, rfl⟩)
    refine bodyPost_ret (results_tmp2 Try.results25 _ _ _) rfl ?_
    exact ⟨.inl ⟨hl, rfl⟩, hbel⟩
  · have hbel := (bel_alloc (Below.refl w.heap.size w) _).trans (hb.mono (by simp))
    obtain ⟨hb1, hb2⟩ := lvl_bounds hl
    have HT : Hid (OkTree ns t) := ⟨hf, hok, hnm, hct, hb1, hb2⟩
    have HTR := hide htr
    have HL := hide hl
    have hcnt : t.cnt ≤ 64 := by omega
    clear hf hok hnm hct htr hb hl
    by_cases hlen : names.length = vals.length
    · have q0 : ((names.length : Int) != (vals.length : Int)) = false := by simp [hlen]
      have HLN := hide hlen
      clear hlen
      go_wp2_with (go_at_call 65; refine (none_some _ _).mono ?_; rintro e w' ⟨rfl, hw⟩; have hw := hw.symm; subst hw)
      go_loopw [9] (fun i wr => ∃ (k : Nat), k ≤ vals.length ∧ i = .int .i64 k ∧ Hid (∀ j (h : j < vals.length), j < k → 0 ≤ vals[j] ∧ vals[j] ≤ 1000000) ∧ w1 = wr) (fun i _ => vals.length - (intOf i).toNat)
      case atStart => exact ⟨0, by omega, rfl, fun j _ h => by omega, rfl⟩
      case round =>
        obtain ⟨k, hk, rfl, HA, rfl⟩ := hrel
        by_cases hlt : k < vals.length
        · obtain ⟨b, off, rfl, hc⟩ := HVC.out (by omega)
          have c1 := keep_cell hbel (hc k hlt)
          have hlt' : (k : Int) < vals.length := by omega
          clear hc
          by_cases hbad : vals[k] < 0 ∨ 1000000 < vals[k]
          · have HR := hide (valueR_bad (t := t) (own := namesOf ns) (names := names) k hlt hbad)
            generalize vals[k] = q at *
            go_wp2_with fail
            all_goals first | (exfalso; omega) | (refine bodyPost_ret (results_tmp2 Try.results25 _ _ _) rfl ?_; exact ⟨.inr ⟨HL.out, t, HT.out, ret_pair HR.out⟩, hbel⟩)
          · have HA2 : Hid (∀ j (h : j < vals.length), j < k + 1 → 0 ≤ vals[j] ∧ vals[j] ≤ 1000000) := by
              intro j h hj
              by_cases e : j = k
              · subst e; omega
              · exact HA.out j h (by omega)
            generalize vals[k] = q at *
            have hq1 : 0 ≤ q := by omega
            have hq2 : q ≤ 1000000 := by omega
            clear hbad
            go_wp2_with fail
            go_roundw
            case rel => exact ⟨k + 1, by omega, by go_num, HA2, by first | rfl | trivial⟩
            case measure => simp [intOf]; omega
        · have HA2 : Hid (∀ j (h : j < vals.length), 0 ≤ vals[j] ∧ vals[j] ≤ 1000000) := fun j h => HA.out j h (by omega)
          have hst := World.ownsRow_lit (base := w1.heap.size) (e := 9) (size := 1) w1 #[] 0 (Nat.le_refl _) (by unfold maxLen; omega) rfl
          have HST := hide hst
          clear HA hst
          go_wp2_with fail
          refine (l1Names_any t g _ _ [] w1.heap.size (HTR.out.keep (bel_alloc (Below.refl _ _) _)) HST.out (by simp) (by simp; omega)).mono ?_
          rintro e w2 ⟨vo, rfl, hown2, hb2⟩
          have hb2' : Below w1.heap.size w1 w2 := (bel_alloc (Below.refl w1.heap.size w1) _).trans hb2
          have hbel2 := bel_trans hbel hb2'
          have hstr2 := row_strs hown2
          rw [HT.out.2.2.1] at hstr2
          have HT2 := hide (HTR.out.keep hb2')
          have HVN2 := hide (HVN.out.keep hbel2)
          have HVV2 := hide (HVV.out.keep hbel2)
          clear hown2 hb2 hb2'
          have HPAR : Hid (∀ x ∈ t.params, hasB (namesOf ns) x = true) := by
            have := names_params t []
            rw [HT.out.2.2.1] at this
            exact this
          obtain ⟨own, hown⟩ : ∃ own, own = namesOf ns := ⟨_, rfl⟩
          rw [← hown] at hstr2 HPAR
          have HO := hide hown
          clear hown
          obtain ⟨oa, oc, rfl, ho1, ho2, hoc⟩ := hstr2
          unfold maxLen at ho2
          have HOC := hide hoc
          clear hoc
          go_wp2_with fail
          go_loopw [11] (fun i wr => ∃ (k : Nat), k ≤ own.length ∧ i = .int .i64 k ∧ Hid (∀ j (h : j < own.length), j < k → hasB names own[j] = true) ∧ w2 = wr) (fun i _ => own.length - (intOf i).toNat)
          case atStart => exact ⟨0, by omega, rfl, fun j _ h => by omega, rfl⟩
          case round =>
            obtain ⟨k, hk, rfl, HA, rfl⟩ := hrel
            by_cases hlt : k < own.length
            · obtain ⟨b, off, rfl, hc⟩ := HOC.out (by omega)
              have c1 := hc k hlt
              have hlt' : (k : Int) < own.length := by omega
              clear hc
              cases hh : hasB names own[k]
              · have HR := hide (valueR_out (t := t) (vals := vals) k hlt hh)
                generalize own[k] = q at *
                go_wp2_with (go_at_call 73; refine (l1In_any _ names q _ HVN2.out).mono ?_; rintro e w' ⟨rfl, rfl⟩; rw [hh])
                refine bodyPost_ret (results_tmp2 Try.results25 _ _ _) rfl ?_
                exact ⟨.inr ⟨HL.out, t, HT.out, ret_pair (by rw [← HO.out]; exact HR.out)⟩, hbel2⟩
              · have HA3 : Hid (∀ j (h : j < own.length), j < k + 1 → hasB names own[j] = true) := by
                  intro j h hj
                  by_cases e : j = k
                  · subst e; exact hh
                  · exact HA.out j h (by omega)
                generalize own[k] = q at *
                go_wp2_with (go_at_call 73; refine (l1In_any _ names q _ HVN2.out).mono ?_; rintro e w' ⟨rfl, rfl⟩; rw [hh])
                go_roundw
                case rel => exact ⟨k + 1, by omega, by go_num, HA3, by first | rfl | trivial⟩
                case measure => simp [intOf]; omega
            · have HA3 : Hid (∀ j (h : j < own.length), hasB names own[j] = true) := fun j h => HA.out j h (by omega)
              have HR := hide (valueR_ok (t := t) HLN.out HA2.out HA3.out)
              have HV : Hid (Vals w2 (.slice an names.length cn) (.slice av vals.length cv) names vals) := ⟨HVN2.out, HVV2.out, HLN.out, fun x hx => by
                obtain ⟨j, hj, rfl⟩ := List.getElem_of_mem hx
                exact HA2.out j hj⟩
              have HW := hide (l1Weigh_any t g _ w2 _ _ names vals HT2.out HT.out.2.1 HV.out (fun x hx => has_all HA3.out (HPAR.out x hx)) (by omega))
              clear HA
              go_wp2_with (go_at_call 74; refine HW.out.mono ?_; rintro e w' ⟨rfl, rfl⟩)
              refine bodyPost_ret (results_tmp2 Try.results25 _ _ _) rfl ?_
              exact ⟨.inr ⟨HL.out, t, HT.out, ret_pair (by rw [← HO.out]; exact HR.out)⟩, hbel2⟩
    · have q0 : ((names.length : Int) != (vals.length : Int)) = true := by rw [bne_iff_ne]; omega
      have HR := hide (valueR_len (t := t) (own := namesOf ns) hlen)
      clear hlen
      go_wp2_with (go_at_call 65; refine (none_some _ _).mono ?_; rintro e w' ⟨rfl, hw⟩; have hw := hw.symm; subst hw)
      refine bodyPost_ret (results_tmp2 Try.results25 _ _ _) rfl ?_
      exact ⟨.inr ⟨HL.out, t, HT.out, ret_pair HR.out⟩, hbel⟩
end Go.Proofs.Ytnifepmaijfllaa
