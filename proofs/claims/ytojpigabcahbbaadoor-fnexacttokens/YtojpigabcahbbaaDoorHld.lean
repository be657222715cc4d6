/- What heldTokenS answers where the marks are held. -/
import Derived.Test.YtojpigabcahbbaaDoorMrt
namespace Go.Proofs.YtojpigabcahbbaaDoor
open Go.ChangeShapes Go.WideShapes Go.ChangeAt Go.RowKit

set_option maxRecDepth 20000 in
set_option maxHeartbeats 8000000 in
theorem heldTokenS_any (v : Value) (n k : Nat) (w : World) (h : TokensAt w v (mkTs k n)) (hl : n ≤ 20000) (hk1 : 1 ≤ k) (hk : k ≤ 1000000) :
    Calls Tryd.prog 11 #[v, .int .i64 k] w fun e w' => e = .returned (.int .i64 ((k + n * 4 : Nat) : Int)) ∧ Below w.heap.size w w' := by
  have H1 := hide h
  obtain ⟨a1, cap1, hv, hc1⟩ := h
  rw [mkTs_len] at hv
  subst hv
  clear hc1
  go_enter Tryd.func11, Tryd.ntmps11
  go_wp2_with fail
  go_loopw [1, 5] (fun m i wr => ∃ (j : Nat), j ≤ n ∧ i = .int .i64 j ∧ m = .int .i64 ((k + j * 4 : Nat) : Int) ∧ Hid (Below w.heap.size w wr)) (fun _ i _ => n - (intOf i).toNat)
  case atStart => exact ⟨0, by omega, rfl, rfl, Below.refl _ _⟩
  case round =>
    obtain ⟨j, hj, rfl, rfl, HB⟩ := hrel
    by_cases hlt : j < n
    · obtain ⟨b1, z1, e1, c1⟩ := H1.out.keep HB.out
      have hlen := mkTs_len k n
      rw [hlen] at e1
      simp only [Value.slice.injEq] at e1
      obtain ⟨rfl, _, rfl⟩ := e1
      obtain ⟨g1, rfl, d1⟩ := c1 (by omega)
      obtain ⟨x0, x1, x2, x3⟩ := d1 j (by omega)
      rw [mkTs_get k n j hlt] at x0 x1 x2 x3
      have hlt' : (j : Int) < n := by omega
      obtain ⟨K, hK⟩ : ∃ K, K = k + j * 4 := ⟨_, rfl⟩
      have HKE := hide hK
      have hK2 : K ≤ 2000000 := by omega
      simp only at x0 x1 x2 x3
      rw [← hK] at x0 x1 x2 x3
      rw [← hK]
      rw [show ((K + 2 : Nat) : Int) = (K : Int) + 2 by omega] at x2
      rw [show ((K + 3 : Nat) : Int) = (K : Int) + 3 by omega] at x3
      have HMT : ∀ W, Calls Tryd.prog 19 #[.int .i64 ((K : Int) + 1)] W fun e w' => e = .returned (.string (mt (K + 1))) ∧ Below W.heap.size W w' := fun W => markText_any (K + 1) W (by omega) (by omega)
      have HMT2 := hide HMT
      have b0 : ((K : Int) != (K : Int)) = false := by simp
      have b2 : (((K : Int) + 2) != ((K : Int) + 2)) = false := by simp
      have b3 : (((K : Int) + 3) != ((K : Int) + 3)) = false := by simp
      clear c1 d1 hK HMT hlen
      generalize mt (K + 1) = S at *
      have b1 : (S.toList != S.toList) = false := by simp
      have b4 : (S.toList == S.toList) = true := by simp
      go_upto_region 7 with fail
      have X2 := hide x2
      have X3 := hide x3
      clear x2 x3
      go_cut [28] from 6 to 48 (fun u wx => u = .bool false ∧ Hid (Below wr.heap.size wr wx))
      case first =>
        go_region_with (first | (go_at_call 19; refine (HMT2.out _).mono ?_; rintro e w2 ⟨rfl, hb2⟩; have HB2 := hide hb2; have x4 := keep_cell (show Below wr.heap.size wr w2 from by first | exact hb2 | exact bel_trans ((Below.refl wr.heap.size wr).drew) hb2) x1; clear hb2) | fail)
        all_goals
          go_wp2_with fail
          go_meet
          exact ⟨rfl, by first | exact HB2.out | exact bel_trans ((Below.refl wr.heap.size wr).drew) HB2.out | exact (bel_trans ((Below.refl wr.heap.size wr).drew) HB2.out).drew⟩
      case rest =>
        obtain ⟨rfl, HX⟩ := hcut
        have y2 := keep_cell HX.out X2.out
        have y3 := keep_cell HX.out X3.out
        have HB3 := hide (bel_trans HB.out HX.out)
        go_wp2_with fail
        go_roundw
        case rel => exact ⟨j + 1, by omega, by go_num, by have := HKE.out; rw [show k + (j + 1) * 4 = K + 4 by omega]; go_num, HB3.out⟩
        case measure => simp [intOf]; omega
    · have hjn : j = n := by omega
      subst hjn
      have hlt' : ¬ (j : Int) < j := by omega
      go_wp2_with fail
      go_ret
      exact ⟨rfl, HB.out⟩
end Go.Proofs.YtojpigabcahbbaaDoor
