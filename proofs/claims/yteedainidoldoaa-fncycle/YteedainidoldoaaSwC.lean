/- The program's row: the greatest sums for one more number of constraints. -/
import Derived.Test.YteedainidoldoaaSwB
import Derived.Deep.AppendLies
namespace Go.Proofs.Yteedainidoldoaa
open Go.ChangeShapes Go.WideShapes Go.ChangeAt Go.RowKit

/-- The first p numbers of a row. -/
def tabI (n : Nat) (ct : List Ct) (l p : Nat) : List Value := ((tab n ct l).take p).map (fun k => .int .i64 k)
theorem tabI_snoc {n : Nat} (ct : List Ct) (l : Nat) {s h : Nat} (hs : s ≤ n) (hh : h ≤ n) : tabI n ct l (s * (n + 1) + h + 1) = tabI n ct l (s * (n + 1) + h) ++ [.int .i64 (pb ct l s h)] := by
  obtain ⟨hp, hv⟩ := tab_at ct l hs hh
  unfold tabI
  rw [List.take_succ_eq_append_getElem hp, hv, List.map_append]
  rfl
set_option maxRecDepth 20000 in
set_option maxHeartbeats 8000000 in
theorem row_any (sb n : Nat) (v : Value) (cs : List Cn) (L l : Nat) (w : World) (h : Cy w sb n v cs L) (hl : l ≤ L) (hL : L ≤ 31) (hn : n ≤ 30) (hok : consB n cs = true) :
    Calls Try.prog 41 #[.pointer (some ⟨sb, 0, none⟩), .int .i64 l] w fun e w' => ∃ v', e = .returned v' ∧ IntsAt w' v' (tab n (cs.map ctC) l) ∧ Below w.heap.size w w' := by
  obtain ⟨i3, hi3, hz3, hs3, hb3⟩ := info_parts Try.info3
  have HCY := hide h
  have HOK := hide hok
  have c0 := h.cn
  have hsb := lt_cell c0
  clear h hok
  obtain ⟨N, hN⟩ : ∃ N, N = (n + 1) * (n + 1) := ⟨_, rfl⟩
  have hN31 : N ≤ 31 * 31 := by rw [hN]; exact Nat.mul_le_mul (by omega) (by omega)
  have hw1 : IntKind.i64.wrap (((n : Int) + 1) * ((n : Int) + 1)) = (N : Int) := by
    rw [show ((n : Int) + 1) * ((n : Int) + 1) = ((N : Nat) : Int) from by rw [hN, Int.natCast_mul]; rfl, IntKind.wrap_i64]
    omega
  have HMK : Hid (∀ W : World, (Instr.makeSlice 24 (.int .i64 0) (.int .i64 (((n : Int) + 1) * ((n : Int) + 1)))).run Try.prog W = .ok (.slice (some ⟨W.heap.size, 0, none⟩) 0 N) (W.alloc (.cells (madeCells (Value.int .i64 0).cells (N * i3.size)) 3))) := by
    intro W
    rw [show ((n : Int) + 1) * ((n : Int) + 1) = ((N : Nat) : Int) from by rw [hN, Int.natCast_mul]; rfl]
    have hr := run_make (P := Try.prog) W 24 3 i3 (.int .i64 0) Try.underlying24 hi3 hz3 .i64 .i64 0 N (by omega) (by omega) (by rw [hb3]; omega) (by omega)
    simpa using hr
  have HR0 : Hid (((w.alloc (.cells (madeCells #[.int .i64 0] ((n + 1) * (n + 1))) 3)).drew).ownsRow w.heap.size 3 1 (.slice (some ⟨w.heap.size, 0, none⟩) 0 ((n + 1) * (n + 1))) 0 (tabI n (cs.map ctC) l 0)) := by
    have h := World.ownsRow_made (base := w.heap.size) (e := 3) (size := i3.size) w (madeCells (Value.int .i64 0).cells (N * i3.size)) N (Nat.le_refl _) (by unfold maxLen; omega) (size_madeCells _ _)
    rw [hs3, Nat.mul_one, hN] at h
    exact h
  have HB0 : Hid (Below w.heap.size w ((w.alloc (.cells (madeCells #[.int .i64 0] ((n + 1) * (n + 1))) 3)).drew)) := (bel_alloc (Below.refl _ _) _).drew
  go_enter Try.func41, Try.ntmps41
  have hmk := HMK.out
  go_wp2_with fail
  go_region
  clear hmk
  generalize (w.alloc (.cells (madeCells #[.int .i64 0] ((n + 1) * (n + 1))) 3)).drew = w1 at *
  rw [← hN] at *
  clear hw1
  go_wp2_with fail
  go_loopw [5, 6] (fun rv fv wr => ∃ f g cap P : Nat, f ≤ n + 1 ∧ fv = .int .i64 ((f : Int) - 1) ∧ rv = .slice (some ⟨g, 0, none⟩) P cap ∧ Hid (P = f * (n + 1)) ∧ P ≤ 961 ∧ Hid (wr.ownsRow w.heap.size 3 1 (.slice (some ⟨g, 0, none⟩) P cap) P (tabI n (cs.map ctC) l P)) ∧ Hid (Below w.heap.size w wr)) (fun _ fv _ => n + 1 - (intOf fv + 1).toNat)
  case atStart => exact ⟨0, _, _, 0, by omega, rfl, rfl, by show _ = _; omega, by omega, HR0, HB0⟩
  case round =>
    clear HR0 HB0
    obtain ⟨f, g, cap, P, hf, rfl, rfl, HP, hP, HR, HB⟩ := hrel
    have c0 := keep_cell HB.out HCY.out.cn
    have hsb := lt_cell c0
    by_cases hlt : f < n + 1
    · have hlt' : (f : Int) - 1 < n := by omega
      have hwf : IntKind.i64.wrap ((f : Int) - 1 + 1) = ((f + 1 : Nat) : Int) - 1 := by rw [IntKind.wrap_i64]; omega
      go_wp2_with fail
      have HR0 := HR
      have HP0 : Hid (P = f * (n + 1) + 0) := HP.out
      generalize wr = wo at *
      clear c0 hsb
      go_loopw [5, 7] (fun rv hv wr => ∃ h g cap P : Nat, h ≤ n + 1 ∧ hv = .int .i64 ((h : Int) - 1) ∧ rv = .slice (some ⟨g, 0, none⟩) P cap ∧ Hid (P = f * (n + 1) + h) ∧ P ≤ 961 ∧ Hid (wr.ownsRow w.heap.size 3 1 (.slice (some ⟨g, 0, none⟩) P cap) P (tabI n (cs.map ctC) l P)) ∧ Hid (Below w.heap.size w wr)) (fun _ hv _ => n + 1 - (intOf hv + 1).toNat)
      case atStart => exact ⟨0, _, _, P, by omega, rfl, rfl, HP0, hP, HR0, HB⟩
      case round =>
        clear HR0 HP0 HP HR HB hP
        obtain ⟨h, g, cap, P, hh, rfl, rfl, HP, hP, HR, HB⟩ := hrel
        have c0 := keep_cell HB.out HCY.out.cn
        have hsb := lt_cell c0
        by_cases hlt2 : h < n + 1
        · have hlt2' : (h : Int) - 1 < n := by omega
          have hwh : IntKind.i64.wrap ((h : Int) - 1 + 1) = ((h + 1 : Nat) : Int) - 1 := by rw [IntKind.wrap_i64]; omega
          have HSM := hide (sum_any sb n v cs L l ((f : Int) - 1) ((h : Int) - 1) wr (HCY.out.keep HB.out) hl hL hn HOK.out (by omega) (by omega) (by omega) (by omega))
          have e1 : ((f : Int) - 1 + 1).toNat = f := by omega
          have e2 : ((h : Int) - 1 + 1).toNat = h := by omega
          rw [e1, e2] at HSM
          have HT := hide (tabI_snoc (n := n) (cs.map ctC) l (s := f) (h := h) (by omega) (by omega))
          rw [← HP.out] at HT
          generalize pb (cs.map ctC) l f h = q at *
          have hP2 : P + 1 ≤ 961 := by
            have h1 := HP.out
            have h2 : f * (n + 1) ≤ 30 * 31 := Nat.mul_le_mul (by omega) (by omega)
            omega
          clear e1 e2 hP
          go_wp2_with (first
            | (go_at_call 48; refine HSM.out.mono ?_; rintro e w5 ⟨rfl, hb5⟩; have HB5 := hide (bel_trans HB.out hb5); have HR5 := hide (row_keep hb5 HR.out); have hs5 := HB5.out.size; clear hb5)
            | (at_builtin
               refine wpList_append_lies _ rfl _ _ 24 rfl w.heap.size 3 i3 (.int .i64 0) 1 8 Try.underlying24 hi3 hz3 hs3 hb3 rfl (by omega) (.slice (some ⟨g, 0, none⟩) P cap) P (tabI n (cs.map ctC) l P) rfl (HR5.out.alloc _) ⟨w5.heap.size, 0, none⟩ 1 1 [.int .i64 q] rfl rfl (cell_one_new _ _ _) (by intro u hu; simp at hu; rcases hu with rfl; rfl) (by omega) (by unfold maxLen; omega) (by omega) (by simp; omega) _ rfl ?_)
            | fail)
          intro g7 cap7 w7 hown7 hgrow7 hat7 hlt7
          have HR7 : Hid (w7.ownsRow w.heap.size 3 1 (.slice (some ⟨g7, 0, none⟩) (P + 1) cap7) (P + 1) (tabI n (cs.map ctC) l (P + 1))) := by
            show World.ownsRow _ _ _ _ _ _ _
            rw [HT.out]
            exact hown7
          have HB7 : Hid (Below w.heap.size w w7) := (bel_alloc HB5.out _).grown hgrow7 (by simp; omega) (fun z hz => by cases hz; exact (World.ownsRow.lt HR5.out g rfl).1)
          have HP7 : Hid (P + 1 = f * (n + 1) + (h + 1)) := by
            have := HP.out
            show _ = _
            omega
          clear hown7 hgrow7 hat7 hlt7 HR5 HR HB5 HB
          go_wp2_with fail
          go_roundw
          case rel => exact ⟨h + 1, g7, cap7, P + 1, by omega, by go_num, rfl, HP7, hP2, HR7, HB7⟩
          case measure => simp [intOf]; omega
        · have hh2 : h = n + 1 := by omega
          have HP7 : Hid (P = (f + 1) * (n + 1)) := by
            have := HP.out
            show _ = _
            rw [this, hh2, Nat.add_mul]
            omega
          subst hh2
          have hlt2' : ¬ (((n + 1 : Nat) : Int) - 1 < n) := by omega
          go_wp2_with fail
          go_roundw
          case rel => exact ⟨f + 1, g, cap, P, by omega, by go_num, rfl, HP7, hP, HR, HB⟩
          case measure => simp [intOf]; omega
    · have hf2 : f = n + 1 := by omega
      subst hf2
      have hlt' : ¬ (((n + 1 : Nat) : Int) - 1 < n) := by omega
      go_wp2_with fail
      go_ret
      have hl2 := tab_len n (cs.map ctC) l
      have HR2 := HR.out
      unfold tabI at HR2
      rw [List.take_of_length_le (by have := HP.out; omega)] at HR2
      exact ⟨_, rfl, ints_row HR2 (by have := HP.out; omega), HB.out⟩
end Go.Proofs.Yteedainidoldoaa
