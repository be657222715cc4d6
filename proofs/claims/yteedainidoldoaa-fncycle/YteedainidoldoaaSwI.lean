/- Marks: what is written into copies and answers, and read back. -/
import Derived.Test.YteedainidoldoaaSwH
namespace Go.Proofs.Yteedainidoldoaa
open Go.ChangeShapes Go.WideShapes Go.ChangeAt Go.RowKit

theorem grown_set (w : World) (p : Addr) (u : Value) : w.grownBy (w.setCell p u) (some p.block) :=
  ⟨rfl, rfl, rfl, by simp, fun k _ hk => Below.heap_setCell w p u k (fun e => hk (by rw [e]))⟩
theorem grown_trans {w w1 w2 : World} {r : Option Nat} (h : w.grownBy w1 r) (h2 : w1.grownBy w2 r) : w.grownBy w2 r :=
  ⟨h2.os.trans h.os, h2.tape.trans h.tape, h2.output.trans h.output, Nat.le_trans h.size h2.size, fun k hk hne => (h2.block k (Nat.lt_of_lt_of_le hk h.size) hne).trans (h.block k hk hne)⟩
/-- Numbers from k on. -/
def nums (k n : Nat) : List Int := (List.range n).map (fun j => ((k + j : Nat) : Int))
theorem nums_len (k n : Nat) : (nums k n).length = n := by simp [nums]
theorem nums_get (k n j : Nat) (h : j < n) : (nums k n)[j]'(by rw [nums_len]; exact h) = ((k + j : Nat) : Int) := by simp [nums]

set_option maxRecDepth 20000 in
set_option maxHeartbeats 2000000 in
theorem markIntS_any (lo : Nat) (v : Value) (ks : List Int) (k : Nat) (w : World) (h : OwI lo w v ks) (hl : ks.length ≤ 1048576) (hk : k ≤ 100000000) :
    Calls Try.prog 13 #[v, .int .i64 k] w fun e w' => e = .returned (.int .i64 ((k + ks.length : Nat) : Int)) ∧ OwI lo w' v (nums k ks.length) ∧ w.grownBy w' v.ownBlock := by
  by_cases h0 : ks.length = 0
  · have hks : ks = [] := List.eq_nil_of_length_eq_zero h0
    subst hks
    have HH := hide (show OwI lo w v (nums k ([] : List Int).length) from h)
    obtain ⟨a, cap, rfl⟩ := row_shape h
    clear h
    go_enter Try.func13, Try.ntmps13
    go_wp2_with fail
    go_loopw [1, 5] (fun m i wr => m = .int .i64 k ∧ i = .int .i64 0 ∧ w = wr) (fun _ _ _ => 0)
    case atStart => exact ⟨rfl, rfl, rfl⟩
    case round =>
      obtain ⟨rfl, rfl, rfl⟩ := hrel
      go_wp2_with fail
      go_ret
      exact ⟨by simp, HH.out, ⟨rfl, rfl, rfl, Nat.le_refl _, fun _ _ _ => rfl⟩⟩
  · obtain ⟨g, cap, hv⟩ : ∃ g cap, v = .slice (some ⟨g, 0, none⟩) ks.length cap := by
      rcases h.2 with ⟨_, h1⟩ | ⟨g, cap, _, h1, _⟩
      · omega
      · exact ⟨g, cap, h1⟩
    subst hv
    have hown : w.ownsRow lo 3 1 (.slice (some ⟨g, 0, none⟩) ks.length cap) ks.length (ks.map (Value.int .i64)) := h
    have HO := hide hown
    clear h
    go_enter Try.func13, Try.ntmps13
    go_wp2_with fail
    go_loopw [1, 5] (fun m i wr => ∃ (j : Nat) (xs : List Value), j ≤ ks.length ∧ i = .int .i64 j ∧ m = .int .i64 ((k + j : Nat) : Int) ∧ wr.ownsRow lo 3 1 (.slice (some ⟨g, 0, none⟩) ks.length cap) ks.length xs ∧ Hid (∀ q, q < j → xs[q]? = some (.int .i64 ((k + q : Nat) : Int))) ∧ Hid (w.grownBy wr (some g))) (fun _ i _ => ks.length - (intOf i).toNat)
    case atStart => exact ⟨0, _, by omega, rfl, rfl, HO.out, fun q h => by omega, ⟨rfl, rfl, rfl, Nat.le_refl _, fun _ _ _ => rfl⟩⟩
    case round =>
      obtain ⟨j, xs, hj, rfl, rfl, hownr, HX, HG⟩ := hrel
      clear HO hown
      by_cases hlt : j < ks.length
      · have hlt' : (j : Int) < ks.length := by omega
        have hst := (hownr.stored j (.int .i64 ((k + j : Nat) : Int))).1
        have HST := hide hst
        have hfz := hownr.frozenAt j
        have hce := hownr.cellAt j (by omega)
        have hxl := hownr.1
        rw [List.getElem?_eq_getElem (by omega)] at hce
        have HX2 : Hid (∀ q, q < j + 1 → (xs.set j (.int .i64 ((k + j : Nat) : Int)))[q]? = some (.int .i64 ((k + q : Nat) : Int))) := by
          show ∀ q, _
          intro q hq
          by_cases e : j = q
          · subst e; rw [List.getElem?_set_self (by omega)]
          · rw [List.getElem?_set_ne e]; exact HX.out q (by omega)
        have HG2 := hide (grown_trans HG.out (grown_set wr ⟨g, j, none⟩ (.int .i64 ((k + j : Nat) : Int))))
        obtain ⟨K, hK⟩ : ∃ K, K = k + j := ⟨_, rfl⟩
        have HKE := hide hK
        rw [← hK] at HST HX2 HG2 ⊢
        have hK2 : K ≤ 200000000 := by omega
        clear hst HX HG hK hownr
        go_wp2_with fail
        go_roundw
        case rel => exact ⟨j + 1, _, by omega, by go_num, by have := HKE.out; rw [show k + (j + 1) = K + 1 by omega]; go_num, HST.out, HX2, HG2⟩
        case measure => simp [intOf]; omega
      · have hjk : j = ks.length := by omega
        subst hjk
        have hxs : xs = (nums k ks.length).map (Value.int .i64) := by
          refine List.ext_getElem? fun q => ?_
          by_cases hq : q < ks.length
          · rw [HX.out q hq, List.getElem?_map, List.getElem?_eq_getElem (by rw [nums_len]; exact hq), nums_get k _ q hq]; rfl
          · have h1 := hownr.1
            rw [List.getElem?_eq_none (by omega), List.getElem?_eq_none (by rw [List.length_map, nums_len]; omega)]
        have HK : Hid (OwI lo wr (.slice (some ⟨g, 0, none⟩) ks.length cap) (nums k ks.length)) := by
          show _
          unfold OwI
          rw [nums_len, ← hxs]
          exact hownr
        clear hownr hxs HX
        go_wp2_with fail
        go_ret
        exact ⟨rfl, HK.out, HG.out⟩

set_option maxRecDepth 20000 in
set_option maxHeartbeats 2000000 in
theorem heldIntS_any (v : Value) (n k : Nat) (w : World) (h : IntsAt w v (nums k n)) (hl : n ≤ 1048576) (hk : k ≤ 100000000) :
    Calls Try.prog 14 #[v, .int .i64 k] w fun e w' => e = .returned (.int .i64 ((k + n : Nat) : Int)) ∧ w' = w := by
  obtain ⟨a, cap, rfl, h1, h2, hc⟩ := h
  rw [nums_len] at h1 ⊢
  have HC := hide hc
  unfold maxLen at h2
  clear hc
  go_enter Try.func14, Try.ntmps14
  go_wp2_with fail
  go_loopw [1, 5] (fun m i wr => ∃ (j : Nat), j ≤ n ∧ i = .int .i64 j ∧ m = .int .i64 ((k + j : Nat) : Int) ∧ w = wr) (fun _ i _ => n - (intOf i).toNat)
  case atStart => exact ⟨0, by omega, rfl, rfl, rfl⟩
  case round =>
    obtain ⟨j, hj, rfl, rfl, rfl⟩ := hrel
    by_cases hlt : j < n
    · obtain ⟨b, off, rfl, hcell⟩ := HC.out (by rw [nums_len]; omega)
      have hc := hcell j (by rw [nums_len]; exact hlt)
      rw [nums_get k n j hlt] at hc
      have hlt' : (j : Int) < n := by omega
      obtain ⟨K, hK⟩ : ∃ K, K = k + j := ⟨_, rfl⟩
      have HKE := hide hK
      rw [← hK] at hc ⊢
      have hK2 : K ≤ 200000000 := by omega
      have hself : ((K : Int) != (K : Int)) = false := by simp
      clear hcell hK
      go_wp2_with fail
      go_roundw
      case rel => exact ⟨j + 1, by omega, by go_num, by have := HKE.out; rw [show k + (j + 1) = K + 1 by omega]; go_num, by first | rfl | trivial⟩
      case measure => simp [intOf]; omega
    · have hjn : j = n := by omega
      subst hjn
      go_wp2_with fail
      go_ret
      exact ⟨rfl, rfl⟩

set_option maxRecDepth 20000 in
set_option maxHeartbeats 4000000 in
theorem markConsS_any (lo g n cap k : Nat) (xs : List Value) (w : World) (h : w.ownsRow lo 42 3 (.slice (some ⟨g, 0, none⟩) n cap) n xs) (hn : n ≤ 1048576) (hk : k ≤ 100) :
    Calls Try.prog 12 #[.slice (some ⟨g, 0, none⟩) n cap, .int .i64 k] w fun e w' => e = .returned (.int .i64 ((k + 3 * n : Nat) : Int)) ∧ w.grownBy w' (some g) := by
  have HO := hide h
  clear h
  go_enter Try.func12, Try.ntmps12
  go_wp2_with fail
  go_loopw [1, 5] (fun m i wr => ∃ (j : Nat) (xs : List Value), j ≤ n ∧ i = .int .i64 j ∧ m = .int .i64 ((k + 3 * j : Nat) : Int) ∧ Hid (wr.ownsRow lo 42 3 (.slice (some ⟨g, 0, none⟩) n cap) n xs) ∧ Hid (w.grownBy wr (some g))) (fun _ i _ => n - (intOf i).toNat)
  case atStart => exact ⟨0, _, by omega, rfl, rfl, HO, ⟨rfl, rfl, rfl, Nat.le_refl _, fun _ _ _ => rfl⟩⟩
  case round =>
    clear HO
    obtain ⟨j, xs, hj, rfl, rfl, HR, HG⟩ := hrel
    by_cases hlt : j < n
    · have hlt' : (j : Int) < n := by omega
      have hxl := HR.out.1
      obtain ⟨K, hK⟩ : ∃ K, K = k + 3 * j := ⟨_, rfl⟩
      have HKE := hide hK
      rw [← hK]
      have hK2 : K ≤ 100000000 := by omega
      have f0 := HR.out.frozenAt (j * 3)
      have f1 := HR.out.frozenAt (j * 3 + 1)
      have f2 := HR.out.frozenAt (j * 3 + 2)
      have he : ∀ o, o < n * 3 → ∃ y, wr.cell? ⟨g, o, none⟩ = some y := fun o ho => by
        have d := HR.out.cellAt o ho
        rw [List.getElem?_eq_getElem (by omega)] at d
        exact ⟨_, d⟩
      obtain ⟨y0, d0⟩ := he (j * 3) (by omega)
      obtain ⟨y1, d1⟩ := he (j * 3 + 1) (by omega)
      obtain ⟨y2, d2⟩ := he (j * 3 + 2) (by omega)
      clear he
      have lg := lt_cell d0
      have h1 := (HR.out.stored (j * 3) (.int .i64 (K : Int))).1
      have h2 := (h1.stored (j * 3 + 1) (.int .i64 ((K : Int) + 1))).1
      have HST := hide ((h2.stored (j * 3 + 2) (.int .i64 ((K : Int) + 1 + 1))).1)
      have HG2 := hide (grown_trans (grown_trans (grown_trans HG.out (grown_set wr ⟨g, j * 3, none⟩ (.int .i64 (K : Int)))) (grown_set _ ⟨g, j * 3 + 1, none⟩ (.int .i64 ((K : Int) + 1)))) (grown_set _ ⟨g, j * 3 + 2, none⟩ (.int .i64 ((K : Int) + 1 + 1))))
      clear h1 h2 hxl hK HR HG
      go_wp2_with fail
      go_roundw
      case rel => exact ⟨j + 1, _, by omega, by go_num, by have := HKE.out; rw [show k + 3 * (j + 1) = K + 3 by omega]; go_num, HST, HG2⟩
      case measure => simp [intOf]; omega
    · have hjn : j = n := by omega
      subst hjn
      go_wp2_with fail
      go_ret
      exact ⟨rfl, HG.out⟩
end Go.Proofs.Yteedainidoldoaa
