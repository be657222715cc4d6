/- The heap's up and down, walked through the interface's methods. -/
import Derived.Test.YteedainidoldoaaSvM
import Derived.Handy
namespace Go.Proofs.Yteedainidoldoaa
open Go.ChangeShapes Go.WideShapes Go.ChangeAt Go.RowKit

theorem HpU.less {n : Nat} {f : Nat → Rp} {j : Nat} (h : HpU n f j) (hl : ltP (f j) (f ((j - 1) / 2)) = false) : HpF n f := h.end (.inr (leP_not.1 hl))

set_option maxRecDepth 20000 in
set_option maxHeartbeats 8000000 in
theorem up_any (rb n j : Nat) (f : Nat → Rp) (q : Nat → Bool) (w : World) (h : Hq w rb n f q) (hj : j < n) (hn : n ≤ 1000) (hu : HpU n f j) :
    Calls Try.prog 50 #[.iface 78 (.pointer (some ⟨rb, 0, none⟩)), .int .i64 j] w fun e w' => (∃ v, e = .returned v) ∧ ∃ f', Hq w' rb n f' q ∧ HpF n f' ∧ Same n f f' ∧ FrH rb w w' := by
  have H0 := hide (And.intro h (And.intro hu (And.intro (Same.refl n f) (FrH.refl h.lt))))
  clear h hu
  go_enter Try.func50, Try.ntmps50
  go_wp2_with fail
  go_loopw [1] (fun r wr => ∃ (k : Nat), k < n ∧ r = .int .i64 k ∧ Hid (∃ f', Hq wr rb n f' q ∧ HpU n f' k ∧ Same n f f' ∧ FrH rb w wr)) (fun r _ => (intOf r).toNat)
  case atStart => exact ⟨j, hj, rfl, ⟨f, H0.out⟩⟩
  case round =>
    obtain ⟨k, hk, rfl, HF⟩ := hrel
    clear H0
    obtain ⟨f', g1, g2, g3, g4⟩ := HF.out
    have G1 := hide g1
    have G2 := hide g2
    have G3 := hide g3
    have G4 := hide g4
    clear HF g1 g2 g3 g4
    by_cases hk0 : k = 0
    · subst hk0
      have HE := hide (G2.out.end (.inl rfl))
      go_wp2_with fail
      exact bodyPost_end (results_none Try.results50 _ _ _) rfl ⟨⟨_, rfl⟩, f', G1.out, HE.out, G3.out, G4.out⟩
    · obtain ⟨m, rfl⟩ : ∃ m, k = m + 1 := ⟨k - 1, by omega⟩
      obtain ⟨p, hp⟩ : ∃ p, p = m / 2 := ⟨_, rfl⟩
      have hpm : p ≤ m := by omega
      have HS : Hid (leP (f' (m + 1)) (f' p) → HpU n (swF f' p (m + 1)) p) := by
        intro hl
        have h := G2.out.step (by omega) hk (by rw [Nat.add_sub_cancel, ← hp]; exact hl)
        rw [Nat.add_sub_cancel, ← hp] at h
        exact h
      have HE : Hid (ltP (f' (m + 1)) (f' p) = false → HpF n f') := fun hl => G2.out.less (by rw [Nat.add_sub_cancel, ← hp]; exact hl)
      have hd : (m : Int).tdiv 2 = (p : Int) := by rw [hp]; rw [Int.tdiv_eq_ediv_of_nonneg (by omega)]; omega
      have hw1 : ((m + 1 : Nat) : Int) - 1 = (m : Int) := by omega
      have hne : ¬ ((p : Int) = (m : Int) + 1) := by omega
      have hne2 : ¬ (p = m + 1) := by omega
      have hpn : p < n := by omega
      have HL := hide (fun W (h : Hq W rb n f' q) => less_any rb n f' q (m + 1) p W h hk hpn)
      have HW := hide (fun W (h : Hq W rb n f' q) => swap_any rb n f' q p (m + 1) W h hpn hk (by omega))
      clear hp G2
      cases hlt : ltP (f' (m + 1)) (f' p) with
      | false =>
        have HE2 := hide (HE.out hlt)
        clear HE HS HW
        go_wp2_with (go_at_call 69; refine (HL.out _ G1.out).mono ?_; rintro e w1 ⟨rfl, hb1⟩; rw [hlt])
        exact bodyPost_end (results_none Try.results50 _ _ _) rfl ⟨⟨_, rfl⟩, f', G1.out.keep hb1, HE2.out, G3.out, G4.out.trans (.keep hb1 G1.out.lt)⟩
      | true =>
        have HS2 := hide (HS.out (leP_of hlt))
        have HG3 := hide (G3.out.sw hpn hk)
        clear HE HS
        go_wp2_with (first
          | (go_at_call 69; refine (HL.out _ G1.out).mono ?_; rintro e w1 ⟨rfl, hb1⟩; rw [hlt]; have G5 := hide (G1.out.keep hb1))
          | (go_at_call 72; refine (HW.out _ G5.out).mono ?_; rintro e w2 ⟨⟨v, rfl⟩, hq2, hf2⟩; have Q2 := hide hq2; have F2 := hide hf2; clear hq2 hf2))
        go_roundw
        case rel => exact ⟨p, hpn, rfl, ⟨_, Q2.out, HS2.out, HG3.out, (G4.out.trans (.keep hb1 G1.out.lt)).trans F2.out⟩⟩
        case measure => simp [intOf]; omega
end Go.Proofs.Yteedainidoldoaa
