/- What the draws of a command's and a file's text answer. -/
import Derived.Test.YtmdcdapjjodpiaaDoorDrw
import Derived.Deep.CutRange
namespace Go.Proofs.YtmdcdapjjodpiaaDoor
open Go.ChangeShapes Go.WideShapes Go.ChangeAt Go.RowKit

def bendL : List ByteArray := [⟨#[32]⟩, ⟨#[41]⟩, ⟨#[40]⟩, ⟨#[59]⟩, ⟨#[124]⟩, ⟨#[58, 61]⟩, ⟨#[120]⟩, ⟨#[55]⟩, ⟨#[61, 62]⟩, ⟨#[10, 45, 45]⟩, ⟨#[35]⟩, ⟨#[98, 121]⟩, ⟨#[95]⟩, ⟨#[46]⟩, ⟨#[64]⟩, ⟨#[123]⟩, ⟨#[91]⟩, ⟨#[97, 46, 98]⟩, ⟨#[84, 121, 112, 101]⟩]
theorem bendL_ok : bendL.all (fun s => decide (s.size ≤ 200)) = true := by kernel_rfl
def srcL : List ByteArray := [⟨#[10]⟩, ⟨#[32]⟩, ⟨#[10, 10]⟩, ⟨#[9, 45, 45, 32, 120, 13, 10]⟩]
theorem srcL_ok : srcL.all (fun s => decide (s.size ≤ 200)) = true := by kernel_rfl
def dtL : List ByteArray := [⟨#[97, 46, 98, 46, 99, 32]⟩, ⟨#[97, 46, 32, 98]⟩, ⟨#[120, 46, 49, 46, 50]⟩, ⟨#[49, 48, 48, 48]⟩, ⟨#[49, 50, 97]⟩, ⟨#[95, 120, 39]⟩, ⟨#[46, 123]⟩, ⟨#[58, 61, 58]⟩, ⟨#[61, 62, 61]⟩, ⟨#[45, 62, 45]⟩, ⟨#[60, 45]⟩, ⟨#[60, 32]⟩, ⟨#[45, 45]⟩, ⟨#[47, 92, 92, 47]⟩, ⟨#[39]⟩, ⟨#[63]⟩, ⟨#[97, 46, 46, 98]⟩, ⟨#[97, 97, 97, 97, 97, 97, 97, 97, 97, 97, 97, 97, 97, 97, 97, 97, 97, 97, 97, 97, 97, 97, 97, 97, 97, 97, 97, 97, 97, 97, 97, 97, 97, 97, 97, 97, 97, 97, 97, 97, 97, 97, 97]⟩, ⟨#[195, 169]⟩, ⟨#[95, 46, 95]⟩, ⟨#[95]⟩]
theorem dtL_ok : dtL.all (fun s => decide (s.size ≤ 200)) = true := by kernel_rfl
theorem size_mem {L : List ByteArray} (h : L.all (fun s => decide (s.size ≤ 200)) = true) {s : ByteArray} (hs : s ∈ L) : s.size ≤ 200 := of_decide_eq_true (List.all_eq_true.1 h s hs)
def TB (L : List ByteArray) : Obj := .cells (L.map Value.string).toArray 9
theorem tb_cell (w : World) (L : List ByteArray) : ∀ j (h : j < L.length), (w.alloc (TB L)).cell? ⟨w.heap.size, j, none⟩ = some (.string L[j]) := (TabAt.new w _ 9 L rfl).cell
theorem ext0_size (s : ByteArray) (p : Nat) (h : p ≤ s.size) : (s.extract 0 p).size = p := by rw [ext_size s 0 p (by omega) h]; omega
theorem strAdd (A B : ByteArray) (h : A.size + B.size ≤ 9000000000000000000) (w : World) : (Op.stringOp .add A B).run Tryd.prog w = .ok (.string (A ++ B)) w := run_string_add_sum w _ _ (by omega)
set_option maxRecDepth 20000 in
set_option maxHeartbeats 1000000 in
theorem bend_any (s : ByteArray) (k : Nat) (hk : k < 256) (hs : s.size ≤ 1000000000000) (R base : Nat) (w : World) (h : RdQ base w R) :
    Calls Tryd.prog 38 #[.pointer (some ⟨R, 0, none⟩), .string s, .int .i64 (k : Int)] w fun e w' => StrOut base R (s.size + 200) w e w' := by
  have HR := hide h
  have hRl := h.lt
  clear h
  by_cases h226 : (k : Int) < 226
  · go_enter Tryd.func38, Tryd.ntmps38
    go_wp2_with fail
    go_ret
    exact ⟨⟨_, rfl, by omega⟩, HR.out, Below.refl _ _⟩
  have d226 : decide ((k : Int) < 226) = false := by simp; omega
  by_cases h0 : s.size = 0
  · have d0 : ((s.size : Int) == 0) = true := by simp [h0]
    have HS0 := hide h0
    clear h0
    go_enter Tryd.func38, Tryd.ntmps38
    go_wp2_with fail
    go_ret
    exact ⟨⟨_, rfl, by omega⟩, HR.out, Below.refl _ _⟩
  have d0 : ((s.size : Int) == 0) = false := by simp [h0]
  have hne : ¬ (s.size : Int) = 0 := by omega
  go_enter Tryd.func38, Tryd.ntmps38
  go_upto_region 4 with (first
    | (go_at_call 9; refine (next_any R base _ HR.out).mono ?_; rintro e w1 ⟨v1, rfl, hv1, hr1, hg1⟩; have HR1 := hide hr1; have HB1 := hide (below_of hg1 hRl.1 (by omega))
       obtain ⟨p, hp⟩ : ∃ p, p = v1 % s.size := ⟨_, rfl⟩
       have hpl : p < s.size := by rw [hp]; exact Nat.mod_lt _ (by omega)
       have hpe : (v1 : Int) % (s.size : Int) = (p : Int) := by rw [hp]; omega
       have hpt : (v1 : Int).tmod (s.size : Int) = (p : Int) := by rw [hp, ← Int.ofNat_tmod]
       clear hr1 hg1 hp)
    | fail)
  clear hpe hpt hne
  have hpi : (p : Int) ≤ s.size := by omega
  have hp0 : (0 : Int) ≤ p := by omega
  go_upto_region 5 with (first
    | (go_at_call 9; refine (next_any R base _ HR1.out).mono ?_; rintro e w2 ⟨v, rfl, hv, hr2, hg2⟩; have HR2 := hide hr2; have HB2 := hide (HB1.out.trans (below_of hg2 hRl.1 (by have := HR1.out.lt; omega))); clear hr2 hg2)
    | fail)
  have e1 := ext0_size s p (by omega)
  have e2 := ext_size s p s.size (by omega) (Nat.le_refl _)
  by_cases v0 : (v : Int) % 3 = 0
  · have vb : ((v : Int) % 3 == 0) = true := by simp [v0]
    clear v0
    obtain ⟨A, hA⟩ : ∃ A, A = s.extract 0 p := ⟨_, rfl⟩
    obtain ⟨B, hB⟩ : ∃ B, B = s.extract p s.size := ⟨_, rfl⟩
    have HA := hide hA.symm
    have HBB := hide hB.symm
    rw [← hA] at e1
    rw [← hB] at e2
    have E1 := hide e1
    have E2 := hide e2
    clear hA hB e1 e2
    go_upto_region 6 with fail
    have HRT := hide (HR2.out.keep (bel_alloc (Below.refl _ _) (TB bendL)))
    have HCT := hide (tb_cell w2 bendL)
    have hnr : w2.heap.size ≠ R := by have := HR2.out.lt; omega
    have HBT := hide (show Below base w (w2.alloc (TB bendL)) from HB2.out.alloc (by have := HR2.out.lt; omega) _)
    have hsA : ∀ W, (Instr.slice 9 (.string s) none (some (.int .i64 (p : Int))) none).run Tryd.prog W = .ok (.string A) W := fun W => by
      have := HA.out
      simp [go_sem, hpi, hp0, this]
      first | done | (intro h0; omega)
    have hsB : ∀ W, (Instr.slice 9 (.string s) (some (.int .i64 (p : Int))) none none).run Tryd.prog W = .ok (.string B) W := fun W => by
      have := HBB.out
      simp [go_sem, hpi, hp0, this]
      first | done | (intro h0; omega)
    go_cut [6] from 28 to 38 (fun u wx => ∃ X : ByteArray, u = .string X ∧ X.size ≤ s.size + 200 ∧ Hid (RdQ base wx R) ∧ Hid (Below base w wx))
    case first =>
      go_region_with (first
        | (go_at_call 11; refine (pick_any R base w2.heap.size bendL _ (by first | exact HRT.out | exact (show RdQ base (w2.alloc (TB bendL)).drew R from HRT.out)) (by decide) hnr (by decide) (by first | exact HCT.out | exact (fun j hj => HCT.out j hj))).mono ?_; rintro e w3 ⟨x, rfl, hx, hr3, hg3⟩; have hxz := size_mem bendL_ok hx; have z1 := strAdd A x (by have := E1.out; omega); have z2 := strAdd (A ++ x) B (by rw [ByteArray.size_append]; have := E1.out; have := E2.out; omega); have HXZ := hide hxz; clear hxz; have HR3 := hide hr3; have HB3 : Hid (Below base w w3) := (by { show Below base w w3; first | exact HBT.out.trans (below_of hg3 hRl.1 (by have := HR2.out.lt; simp; omega)) | exact (HBT.out.drew).trans (below_of hg3 hRl.1 (by have := HR2.out.lt; simp; omega)) }); clear hx hr3 hg3)
        | fail)
      all_goals
        go_wp2_with fail
        go_meet
        exact ⟨_, rfl, by rw [ByteArray.size_append, ByteArray.size_append]; have := E1.out; have := E2.out; have := HXZ.out; omega, by first | exact HR3.out | exact HR3.out.keep ((Below.refl _ _).drew), by first | exact HB3.out | exact HB3.out.drew⟩
    case rest =>
      obtain ⟨X, rfl, hX, HRX, HBX⟩ := hcut
      go_wp2_with fail
      go_ret
      exact ⟨⟨_, rfl, hX⟩, HRX.out, HBX.out⟩
  have vb : ((v : Int) % 3 == 0) = false := by simp [v0]
  clear v0
  obtain ⟨A, hA⟩ : ∃ A, A = s.extract 0 p := ⟨_, rfl⟩
  have HA := hide hA.symm
  rw [← hA] at e1
  have E1 := hide e1
  have hsA : ∀ W, (Instr.slice 9 (.string s) none (some (.int .i64 (p : Int))) none).run Tryd.prog W = .ok (.string A) W := fun W => by
    have := HA.out
    simp [go_sem, hpi, hp0, this]
    first | done | (intro h0; omega)
  clear hA e1 e2
  by_cases v1 : (v : Int) % 3 = 1
  · have vc : ((v : Int) % 3 == 1) = true := by simp [v1]
    clear v1
    have hp1 : (p : Int) + 1 ≤ s.size := by omega
    obtain ⟨C, hC⟩ : ∃ C, C = s.extract (p + 1) s.size := ⟨_, rfl⟩
    have e3 : C.size = s.size - (p + 1) := by rw [hC]; exact ext_size s (p + 1) s.size (by omega) (Nat.le_refl _)
    have HC := hide hC.symm
    have hp2 : (0 : Int) ≤ (p : Int) + 1 := by omega
    have hsC : ∀ W, (Instr.slice 9 (.string s) (some (.int .i64 ((p : Int) + 1))) none none).run Tryd.prog W = .ok (.string C) W := fun W => by
      have := HC.out
      simp [go_sem, hp1, hp2, this]
      first | done | (intro h0; omega)
    have E3 := hide e3
    have z1 := strAdd A C (by have := E1.out; have := E3.out; omega)
    have hwr : IntKind.i64.wrap ((p : Int) + 1) = (p : Int) + 1 := by rw [IntKind.wrap_i64]; omega
    have hp3 : ¬ (p : Int) + 1 < 0 := by omega
    clear hC e3
    go_upto_region 8 with fail
    have HSZ := hide (show (A ++ C).size ≤ s.size + 200 from by rw [ByteArray.size_append]; have := E1.out; have := E3.out; omega)
    go_quiet (fail)
    go_wp2_with fail
    go_ret
    exact ⟨⟨_, rfl, HSZ.out⟩, HR2.out.keep (below_drewN (Below.refl _ _) _), below_drewN HB2.out _⟩
  · have vc : ((v : Int) % 3 == 1) = false := by simp [v1]
    clear v1
    obtain ⟨n, hn⟩ : ∃ n, n = v / 3 % 12 := ⟨_, rfl⟩
    have hn12 : n < 12 := by rw [hn]; exact Nat.mod_lt _ (by omega)
    have hne : (v : Int) / 3 % 12 = (n : Int) := by rw [hn]; omega
    clear hn
    go_upto_region 10 with fail
    rw [hne]
    clear hne
    by_cases hpn : s.size < p + n
    · have hpn' : (s.size : Int) < (p : Int) + (n : Int) := by omega
      go_upto_region 12 with fail
      obtain ⟨m, hm⟩ : ∃ m : Nat, (s.size : Int) - (p : Int) = (m : Int) := ⟨s.size - p, by omega⟩
      rw [hm]
      have hpm : p + m ≤ s.size := by omega
      obtain ⟨C, hC⟩ : ∃ C, C = s.extract (p + m) s.size := ⟨_, rfl⟩
      have e3 : C.size = s.size - (p + m) := by rw [hC]; exact ext_size s _ s.size hpm (Nat.le_refl _)
      have HC := hide hC.symm
      have E3 := hide e3
      have z1 := strAdd A C (by have := E1.out; have := E3.out; omega)
      clear hC e3
      have hp1 : (p : Int) + (m : Int) ≤ s.size := by omega
      have hp2 : (0 : Int) ≤ (p : Int) + (m : Int) := by omega
      have hsC : ∀ W, (Instr.slice 9 (.string s) (some (.int .i64 ((p : Int) + (m : Int)))) none none).run Tryd.prog W = .ok (.string C) W := fun W => by
        have := HC.out
        have hpm2 : ((p + m : Nat) : Int) ≤ s.size := by omega
        rw [show (p : Int) + (m : Int) = ((p + m : Nat) : Int) by omega]
        generalize p + m = q at *
        simp [go_sem, hpm2, this]
      have hwr : IntKind.i64.wrap ((p : Int) + (m : Int)) = (p : Int) + (m : Int) := by rw [IntKind.wrap_i64]; omega
      clear hm hpn hpn' hpm
      have HSZ := hide (show (A ++ C).size ≤ s.size + 200 from by rw [ByteArray.size_append]; have := E1.out; have := E3.out; omega)
      go_quiet (fail)
      go_wp2_with fail
      go_ret
      exact ⟨⟨_, rfl, HSZ.out⟩, HR2.out.keep (below_drewN (Below.refl _ _) _), below_drewN HB2.out _⟩
    · have hpn' : ¬ (s.size : Int) < (p : Int) + (n : Int) := by omega
      go_upto_region 12 with fail
      obtain ⟨m, hm⟩ : ∃ m : Nat, n = m := ⟨n, rfl⟩
      subst hm
      have hpm : p + n ≤ s.size := by omega
      obtain ⟨C, hC⟩ : ∃ C, C = s.extract (p + n) s.size := ⟨_, rfl⟩
      have e3 : C.size = s.size - (p + n) := by rw [hC]; exact ext_size s _ s.size hpm (Nat.le_refl _)
      have HC := hide hC.symm
      have E3 := hide e3
      have z1 := strAdd A C (by have := E1.out; have := E3.out; omega)
      clear hC e3
      have hp1 : (p : Int) + (n : Int) ≤ s.size := by omega
      have hp2 : (0 : Int) ≤ (p : Int) + (n : Int) := by omega
      have hsC : ∀ W, (Instr.slice 9 (.string s) (some (.int .i64 ((p : Int) + (n : Int)))) none none).run Tryd.prog W = .ok (.string C) W := fun W => by
        have := HC.out
        have hpm2 : ((p + n : Nat) : Int) ≤ s.size := by omega
        rw [show (p : Int) + (n : Int) = ((p + n : Nat) : Int) by omega]
        generalize p + n = q at *
        simp [go_sem, hpm2, this]
      have hwr : IntKind.i64.wrap ((p : Int) + (n : Int)) = (p : Int) + (n : Int) := by rw [IntKind.wrap_i64]; omega
      clear hpn hpn' hpm
      have HSZ := hide (show (A ++ C).size ≤ s.size + 200 from by rw [ByteArray.size_append]; have := E1.out; have := E3.out; omega)
      go_quiet (fail)
      go_wp2_with fail
      go_ret
      exact ⟨⟨_, rfl, HSZ.out⟩, HR2.out.keep (below_drewN (Below.refl _ _) _), below_drewN HB2.out _⟩
end Go.Proofs.YtmdcdapjjodpiaaDoor
