/- What the program's Meets answers: the plain test. -/
import Derived.Test.YteedainidoldoaaSides
namespace Go.Proofs.Yteedainidoldoaa
open Go.ChangeShapes Go.WideShapes Go.ChangeAt Go.RowKit

/-- The array behind k rounds: 0, then the first k values, then 0. -/
def arrOf (ks : List Int) (k j : Nat) : Int := if 1 ≤ j ∧ j ≤ k then ks.getD (j - 1) 0 else 0
theorem arrOf_side {ks : List Int} {s : Int} (h0 : -1 ≤ s) (h1 : s < ks.length) : arrOf ks ks.length (s + 1).toNat = valOf ks s := by
  unfold arrOf valOf
  by_cases h : s < 0
  · rw [if_pos h, if_neg (by omega)]
  · rw [if_neg h, if_pos (by omega), show (s + 1).toNat - 1 = s.toNat from by omega]
theorem arr_new (w : World) (C : Array Value) (t : TypeId) (hC : C = Array.replicate 31 (.int .i64 0)) (ks : List Int) : ArrAt (w.alloc (.cells C t)) w.heap.size (arrOf ks 0) := by
  intro j hj
  subst hC
  have h := World.cell?_alloc_new w (Array.replicate 31 (.int .i64 0)) t j
  rw [h]
  simp [arrOf, hj]
  omega
theorem arr_set {w : World} {b k : Nat} {ks : List Int} (hk : k < ks.length) (h : ArrAt w b (arrOf ks k)) : ArrAt (w.setCell ⟨b, k + 1, none⟩ (.int .i64 ks[k])) b (arrOf ks (k + 1)) := by
  intro j hj
  by_cases e : j = k + 1
  · subst e
    rw [World.cell?_setCell_same _ _ _ (h _ hj)]
    simp [arrOf, hk]
  · rw [World.cell?_setCell_other _ _ _ _ (by simp <;> omega), h j hj]
    have : arrOf ks k j = arrOf ks (k + 1) j := by
      unfold arrOf
      by_cases h1 : 1 ≤ j ∧ j ≤ k
      · rw [if_pos h1, if_pos (by omega)]
      · rw [if_neg h1, if_neg (by omega)]
    rw [this]

set_option maxRecDepth 10000 in
set_option maxHeartbeats 2000000 in
theorem implMeets_any (v1 v2 : Value) (ks : List Int) (cs : List Cn) (w : World) (hk : IntsAt w v1 ks) (hn : ConsAt w v2 cs) (hf : Fits ks) :
    Calls Try.prog 16 #[v1, v2] w fun e w' => e = .returned (.bool (meetsB ks cs)) ∧ Below w.heap.size w w' := by
  have HK := hide hk
  have HN := hide hn
  have HF := hide hf
  obtain ⟨a1, cap1, rfl, hlc1, hcm1, hc1⟩ := hk
  obtain ⟨a2, cap2, rfl, hlc2, hcm2, hc2⟩ := hn
  unfold maxLen at hcm1 hcm2
  have H1 := hide hc1
  have H2 := hide hc2
  clear hc1 hc2 hf
  cases hok : consB ks.length cs
  · have HM := hide (meetsB_cons hok)
    go_enter Try.func16, Try.ntmps16
    go_wp2_with (go_at_call 24; refine (implConsOk_any _ _ cs _ HN.out).mono ?_; rintro e w1 ⟨rfl, hb1⟩; rw [hok])
    go_ret
    exact ⟨ret_bool HM.out.symm, hb1⟩
  · obtain ⟨⟨_, g2, g3⟩, g4⟩ := consB_yes hok
    have HOK := hide hok
    have HS := hide g4
    clear hok g4
    go_enter Try.func16, Try.ntmps16
    go_wp2_with (go_at_call 24; refine (implConsOk_any _ _ cs _ HN.out).mono ?_; rintro e w1 ⟨rfl, hb1⟩; rw [HOK.out])
    go_loopw [17] (fun i wr => ∃ (k : Nat), k ≤ ks.length ∧ i = .int .i64 k ∧ Hid (∀ j (h : j < ks.length), j < k → 0 ≤ ks[j]) ∧ Hid (ArrAt wr w1.heap.size (arrOf ks k)) ∧ Hid (∀ j, wr.frozen? ⟨w1.heap.size, j, none⟩ = false) ∧ Below w.heap.size w wr) (fun i _ => ks.length - (intOf i).toNat)
    case atStart => exact ⟨0, by omega, rfl, fun j _ h => by omega, arr_new _ _ _ rfl _, fun j => World.frozen?_alloc_new _ _ _ _, bel_alloc hb1 _⟩
    case round =>
      obtain ⟨k, hk, rfl, HA, HARR, HFZ, hbel⟩ := hrel
      by_cases hlt : k < ks.length
      · obtain ⟨b, off, rfl, hc⟩ := H1.out (by omega)
        have c1 := keep_cell hbel (hc k hlt)
        have hlt' : (k : Int) < ks.length := by omega
        clear hc
        by_cases hneg : ks[k] < 0
        · have HM := hide (meetsB_neg (cs := cs) k hlt hneg)
          generalize ks[k] = q at *
          go_wp2_with fail
          go_ret
          exact ⟨ret_bool HM.out.symm, hbel⟩
        · have HA2 : Hid (∀ j (h : j < ks.length), j < k + 1 → 0 ≤ ks[j]) := by
            intro j h hj
            by_cases e : j = k
            · subst e; omega
            · exact HA.out j h (by omega)
          have HARR2 := hide (arr_set hlt HARR.out)
          have hcell := HARR.out (k + 1) (by omega)
          have hfz := HFZ.out (k + 1)
          have HFZ2 : Hid (∀ j, (wr.setCell ⟨w1.heap.size, k + 1, none⟩ (.int .i64 ks[k])).frozen? ⟨w1.heap.size, j, none⟩ = false) := by
            intro j
            rw [World.frozen?_setCell]
            exact HFZ.out j
          have HSET := hide (set_any w1.heap.size k ks[k] wr _ (by omega) hcell hfz)
          clear HARR HFZ HA hcell hfz
          generalize ks[k] = q at *
          go_wp2_with (go_at_call 30; refine HSET.out.mono ?_; rintro e w' ⟨⟨v, rfl⟩, rfl⟩)
          go_roundw
          case rel => exact ⟨k + 1, by omega, by go_num, HA2, HARR2, HFZ2, hbel.setCell (p := ⟨_, _, _⟩) (by have := hb1.size; simpa using this) _⟩
          case measure => simp [intOf]; omega
      · have HA2 : Hid (∀ j (h : j < ks.length), 0 ≤ ks[j]) := fun j h => HA.out j h (by omega)
        have HARR2 : Hid (ArrAt wr w1.heap.size (arrOf ks ks.length)) := by have := HARR.out; rwa [show k = ks.length from by omega] at this
        clear HA HARR HFZ
        go_wp2_with fail
        go_loopw [30] (fun i wr2 => ∃ (k : Nat), k ≤ cs.length ∧ i = .int .i64 k ∧ Hid (∀ j (h : j < cs.length), j < k → metB ks cs[j] = true) ∧ Hid (ArrAt wr2 w1.heap.size (arrOf ks ks.length)) ∧ Below w.heap.size w wr2) (fun i _ => cs.length - (intOf i).toNat)
        case atStart => exact ⟨0, by omega, rfl, fun j _ h => by omega, HARR2, hbel⟩
        case round =>
          clear hbel HARR2
          obtain ⟨k, hk, rfl, HA, HARR, hbel⟩ := hrel
          by_cases hlt : k < cs.length
          · obtain ⟨b, off, rfl, hc⟩ := H2.out (by omega)
            obtain ⟨c1, c2, c3⟩ := (hc k hlt).keep hbel
            have hlt' : (k : Int) < cs.length := by omega
            obtain ⟨s1, s2, s3, s4, s5, s6⟩ := HS.out k hlt
            have r1 := valOf_range (s := cs[k].a) HF.out HA2.out (by omega)
            have r3 := valOf_range (s := cs[k].b) HF.out HA2.out (by omega)
            have e1 := arrOf_side (ks := ks) s1 s2
            have e2 := arrOf_side (ks := ks) s3 s4
            rw [← e1] at r1
            rw [← e2] at r3
            have HMB : Hid (metB ks cs[k] = decide (arrOf ks ks.length (cs[k].a + 1).toNat + cs[k].n ≤ arrOf ks ks.length (cs[k].b + 1).toNat)) := by
              show _ = _
              rw [e1, e2]; rfl
            have HMT : Hid (∀ w', ArrAt w' w1.heap.size (arrOf ks ks.length) → Calls Try.prog 31 #[.pointer (some ⟨w1.heap.size, 0, none⟩), .agg #[.int .i64 cs[k].a, .int .i64 cs[k].n, .int .i64 cs[k].b]] w' fun e w'' => e = .returned (.bool (metB ks cs[k])) ∧ Below w'.heap.size w' w'') := by
              intro w' hA'
              rw [HMB.out]
              exact meet_any _ cs[k] _ _ hA' s1 (by omega) s3 (by omega) s5 s6 r1.1 r1.2 r3.1 r3.2
            have HKA : Hid (∀ o, ArrAt (wr.alloc o) w1.heap.size (arrOf ks ks.length)) := fun o => HARR.out.keep (bel_alloc (Below.refl _ _) o)
            have HKB : Hid (∀ o w', Below (wr.alloc o).heap.size (wr.alloc o) w' → Below w.heap.size w w' ∧ ArrAt w' w1.heap.size (arrOf ks ks.length)) := fun o w' h => ⟨bel_trans (bel_alloc hbel o) h, (HKA.out o).keep h⟩
            clear hc e1 e2 r1 r3 HMB s1 s2 s3 s4 s5 s6 HARR
            by_cases hmet : metB ks cs[k] = true
            · have HA3 : Hid (∀ j (h : j < cs.length), j < k + 1 → metB ks cs[j] = true) := by
                intro j h hj
                by_cases e : j = k
                · subst e; exact hmet
                · exact HA.out j h (by omega)
              clear HA
              generalize cs[k] = c at *
              obtain ⟨ca, cn, cb⟩ := c
              simp only at c1 c2 c3 HMT
              go_wp2_with (go_at_call 31; refine (HMT.out _ (HKA.out _)).mono ?_; rintro e w3 ⟨rfl, hb3⟩; rw [hmet])
              go_roundw
              case rel => exact ⟨k + 1, by omega, by go_num, HA3, (HKB.out _ _ hb3).2, (HKB.out _ _ hb3).1⟩
              case measure => simp [intOf]; omega
            · have HM := hide (meetsB_met k hlt (by simpa using hmet))
              have hmet' : metB ks cs[k] = false := by simpa using hmet
              clear HA hmet
              generalize cs[k] = c at *
              obtain ⟨ca, cn, cb⟩ := c
              simp only at c1 c2 c3 HMT
              go_wp2_with (go_at_call 31; refine (HMT.out _ (HKA.out _)).mono ?_; rintro e w3 ⟨rfl, hb3⟩; rw [hmet'])
              go_ret
              exact ⟨ret_bool HM.out.symm, (HKB.out _ _ hb3).1⟩
          · have HM : Hid (meetsB ks cs = true) := meetsB_all HOK.out HA2.out (fun j hj => HA.out j hj (by omega))
            go_wp2_with fail
            go_ret
            exact ⟨ret_bool HM.out.symm, hbel⟩
end Go.Proofs.Yteedainidoldoaa
