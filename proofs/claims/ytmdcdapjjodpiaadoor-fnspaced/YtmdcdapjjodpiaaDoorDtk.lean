/- What the draws of a file and of a text for Tokens answer: some text. -/
import Derived.Test.YtmdcdapjjodpiaaDoorSou
import Derived.OwnWalk
import Derived.Lib.SmallJoins
namespace Go.Proofs.YtmdcdapjjodpiaaDoor
open Go.ChangeShapes Go.WideShapes Go.ChangeAt Go.RowKit

set_option maxRecDepth 20000 in
set_option maxHeartbeats 2000000 in
theorem source_any (R base : Nat) (w : World) (h : RdQ base w R) :
    Calls Tryd.prog 10 #[.pointer (some ⟨R, 0, none⟩)] w fun e w' => StrOut base R 1000000000000 w e w' := by
  have HR := hide h
  have hRl := h.lt
  clear h
  go_enter Tryd.func10, Tryd.ntmps10
  go_upto_region 4 with (first
    | (go_at_call 9; refine (next_any R base _ HR.out).mono ?_; rintro e w1 ⟨k, rfl, hk, hr1, hg1⟩; have HR1 := hide hr1; have HB1 := hide (below_of hg1 hRl.1 (by omega)); clear hr1 hg1)
    | fail)
  obtain ⟨m, hm⟩ : ∃ m : Nat, (k : Int) % 4 = (m : Int) := ⟨k % 4, by omega⟩
  have hm3 : m ≤ 3 := by omega
  go_loopw [4, 5] (fun ov iv wr => ∃ (j : Nat) (out : ByteArray), j ≤ m ∧ out.size ≤ j * 331000000000 ∧ iv = .int .i64 j ∧ ov = .string out ∧ Hid (RdQ base wr R) ∧ Hid (Below base w wr)) (fun _ iv _ => m - (intOf iv).toNat)
  case atStart => exact ⟨0, ⟨#[]⟩, by omega, by show 0 ≤ _; omega, rfl, rfl, HR1.out, HB1.out⟩
  case round =>
    obtain ⟨j, out, hj, ho, rfl, rfl, HQ, HB⟩ := hrel
    by_cases hlt : j < m
    · have hlt' : (j : Int) < (m : Int) := by omega
      have hsb : base ≤ wr.heap.size := by have := HQ.out.lt; omega
      go_wp2_with (first
        | (go_at_call 19; refine (command_any R base _ HQ.out).mono ?_; rintro e w3 ⟨⟨s3, rfl, hs3⟩, hr3, hb3⟩
           have HR3 := hide (hr3.keep (bel_alloc (Below.refl _ _) (TB srcL)))
           have HB3 := hide ((HB.out.trans hb3).alloc (by have := hr3.lt; omega) (TB srcL))
           have HC3 := hide (tb_cell w3 srcL)
           have hnr : w3.heap.size ≠ R := by have := hr3.lt; omega
           have hl3 : base ≤ w3.heap.size := by have := hr3.lt; omega
           clear hr3 hb3)
        | (go_at_call 11; refine (pick_any R base w3.heap.size srcL _ HR3.out (by decide) hnr (by decide) HC3.out).mono ?_; rintro e w4 ⟨x, rfl, hx, hr4, hg4⟩
           have hxz := size_mem srcL_ok hx
           have HR4 := hide hr4
           have HB4 := hide (HB3.out.trans (below_of hg4 hRl.1 (by simp; omega)))
           have z1 := strAdd s3 x (by omega)
           have z2 := strAdd out (s3 ++ x) (by rw [ByteArray.size_append]; omega)
           have HXZ := hide (show (out ++ (s3 ++ x)).size ≤ (j + 1) * 331000000000 from by rw [ByteArray.size_append, ByteArray.size_append]; omega)
           clear hx hr4 hg4)
        | fail)
      go_roundw
      case rel => exact ⟨j + 1, out ++ (s3 ++ x), by omega, HXZ.out, by go_num, rfl, HR4.out, HB4.out⟩
      case measure => simp [intOf]; omega
    · have hlt' : ¬ (j : Int) < (m : Int) := by omega
      go_wp2_with fail
      go_ret
      exact ⟨⟨_, rfl, by omega⟩, HQ.out, HB.out⟩
end Go.Proofs.YtmdcdapjjodpiaaDoor
