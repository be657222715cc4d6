/- What markText answers: a text of the number alone. -/
import Derived.Test.YtojpigabcahbbaaDoorImt
import Derived.Laws.IdiomStrings
namespace Go.Proofs.YtojpigabcahbbaaDoor
open Go.ChangeShapes Go.WideShapes Go.ChangeAt Go.RowKit

/-- A number's digits ahead of a text. -/
def mtD (q : Nat) (out : ByteArray) : ByteArray := if _h : q = 0 then out else mtD (q / 10) (⟨#[UInt8.ofNat (48 + q % 10)]⟩ ++ out)
termination_by q
decreasing_by omega
def mt (k : Nat) : ByteArray := if k = 0 then ⟨#[109, 48]⟩ else ⟨#[109]⟩ ++ mtD k ⟨#[]⟩
theorem mtD_step {q : Nat} (h : q ≠ 0) (out : ByteArray) : mtD q out = mtD (q / 10) (⟨#[UInt8.ofNat (48 + q % 10)]⟩ ++ out) := by
  rw [mtD, dif_neg h]
theorem mtD_zero (out : ByteArray) : mtD 0 out = out := by rw [mtD, dif_pos rfl]
theorem conv_one (W : World) (b q : Nat) (c : W.cell? ⟨b, 0, none⟩ = some (.int .u8 (48 + (q : Int) % 10))) : (convert 22 9 (.slice (some ⟨b, 0, none⟩) 1 1)).run Tryd.prog W = .ok (.string ⟨#[UInt8.ofNat (48 + q % 10)]⟩) W := by
  have hn : (UInt8.ofNat (48 + q % 10)).toNat = 48 + q % 10 := by simp; omega
  exact run_convert_bytes_back (P := Tryd.prog) W 22 9 5 ⟨b, 0, none⟩ 1 [UInt8.ofNat (48 + q % 10)] Tryd.underlying22 Tryd.underlying5 Tryd.underlying9 (fun j hj => by
    have h0 : j = 0 := by simp at hj; omega
    subst h0
    simp only [List.getElem_cons_zero, hn]
    have : (Addr.add ⟨b, 0, none⟩ 0) = ⟨b, 0, none⟩ := rfl
    rw [this, c]
    simp)
set_option maxRecDepth 20000 in
set_option maxHeartbeats 2000000 in
theorem markText_any (k : Nat) (w : World) (hk : 1 ≤ k) (hk2 : k ≤ 1000000000) :
    Calls Tryd.prog 19 #[.int .i64 k] w fun e w' => e = .returned (.string (mt k)) ∧ Below w.heap.size w w' := by
  have HM : Hid (mt k = ⟨#[109]⟩ ++ mtD k ⟨#[]⟩) := by show _ = _; unfold mt; rw [if_neg (by omega)]
  have d0 : decide ((k : Int) ≤ 0) = false := by simp; omega
  go_enter Tryd.func19, Tryd.ntmps19
  go_wp2_with fail
  go_loopw [0, 3] (fun i o wr => ∃ (q : Nat) (out : ByteArray), out.size + q ≤ 1000000000 ∧ i = .int .i64 q ∧ o = .string out ∧ Hid (mtD q out = mtD k ⟨#[]⟩) ∧ Hid (Below w.heap.size w wr)) (fun i _ _ => (intOf i).toNat)
  case atStart => exact ⟨k, ⟨#[]⟩, by show 0 + k ≤ _; omega, rfl, rfl, rfl, Below.refl _ _⟩
  case round =>
    obtain ⟨q, out, hq, rfl, rfl, HX, HB⟩ := hrel
    have hz1 : ∀ d : UInt8, (⟨#[d]⟩ : ByteArray).size = 1 := fun _ => rfl
    by_cases h0 : q = 0
    · subst h0
      have HR : Hid (⟨#[109]⟩ ++ out = mt k) := by show _ = _; rw [HM.out, ← HX.out, mtD_zero]
      have hsz : (⟨#[109]⟩ : ByteArray).size + out.size ≤ 9223372036854775807 := by rw [hz1]; omega
      go_wp2_with fail
      go_ret
      exact ⟨congrArg (fun s => Ending.returned (.string s)) HR.out, HB.out⟩
    · have hq0 : (0 : Int) < q := by omega
      obtain ⟨d, hd⟩ : ∃ d, d = UInt8.ofNat (48 + q % 10) := ⟨_, rfl⟩
      have HY := hide (HX.out.symm.trans (mtD_step h0 out))
      have hcv := conv_one (wr.alloc (.cells #[.int .u8 (48 + (q : Int) % 10)] 5)) wr.heap.size q (by simp [go_sem])
      rw [← hd] at HY hcv
      have hsz : (⟨#[d]⟩ : ByteArray).size + out.size ≤ 9223372036854775807 := by rw [hz1]; omega
      have hsz2 := ByteArray.size_append (a := ⟨#[d]⟩) (b := out)
      rw [hz1] at hsz2
      have HS2 := hide hsz2
      clear HX hd hsz2
      go_wp2_with fail
      go_roundw
      case rel => exact ⟨q / 10, ⟨#[d]⟩ ++ out, by rw [HS2.out]; omega, by simp, rfl, hide HY.out.symm, hide (bel_alloc HB.out _)⟩
      case measure => simp [intOf]; omega
end Go.Proofs.YtojpigabcahbbaaDoor
