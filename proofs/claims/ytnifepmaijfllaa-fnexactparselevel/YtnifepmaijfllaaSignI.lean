/- What the program's LevelSign answers: -1 where the level is not valid, else when its number is 0. -/
import Derived.Test.YtnifepmaijfllaaNum
import Derived.Test.YtnifepmaijfllaaImpl
import Derived.Test.YtnifepmaijfllaaSign
namespace Go.Proofs.Ytnifepmaijfllaa
open Go.ChangeShapes Go.WideShapes Go.ChangeAt Go.RowKit

set_option maxHeartbeats 1000000 in
theorem implSign_bad (v : Value) (ns : List Nd) (w : World) (hns : NodesAt w v ns) (hsz : ∀ nd ∈ ns, nd.s.size ≤ maxLen) (hl : lvlB ns = false) :
    Calls Try.prog 34 #[.agg #[v]] w fun e w' => e = .returned (.int .i64 (-1)) ∧ Below w.heap.size w w' := by
  have HN : Hid (∀ o, NodesAt (w.alloc o) v ns) := fun o => hns.keep (bel_alloc (Below.refl _ _) o)
  have HZ := hide hsz
  have HL := hide hl
  obtain ⟨a, cap, rfl, _, _, _⟩ := hns
  clear hsz hl
  go_enter Try.func34, Try.ntmps34
  go_wp2_with fail
  refine (implLevelOk_any _ ns _ (HN.out _) HZ.out).mono ?_
  rintro e w1 ⟨rfl, hb1⟩
  rw [HL.out]
  have hbel1 := bel_trans (bel_alloc (Below.refl w.heap.size w) _) hb1
  clear hb1
  go_wp2_with fail
  go_ret
  exact ⟨rfl, hbel1⟩

set_option maxHeartbeats 1000000 in
theorem param_zero (s : ByteArray) : NumAt (.func (.func 84) #[] #[]) (fun _ => 0) (fun _ => True) (.param s) := by
  intro w _
  have a0 := Try.as149_144
  have a1 := Try.as149_146
  have a2 := Try.as149_147
  have a3 := Try.as149_149
  simp only [It.val, It.num]
  go_enter Try.func77, Try.ntmps77
  go_wp2_with (go_at_call 84; refine (zero_fn _ _).mono ?_; rintro e w' ⟨rfl, rfl⟩)
  go_ret
  exact ⟨rfl, bel_alloc (Below.refl _ _) _⟩
set_option maxHeartbeats 1000000 in
theorem param_one (s : ByteArray) : NumAt (.func (.func 85) #[] #[]) (fun _ => 1) (fun _ => True) (.param s) := by
  intro w _
  have a0 := Try.as149_144
  have a1 := Try.as149_146
  have a2 := Try.as149_147
  have a3 := Try.as149_149
  simp only [It.val, It.num]
  go_enter Try.func77, Try.ntmps77
  go_wp2_with (go_at_call 85; refine (one_fn _ _).mono ?_; rintro e w' ⟨rfl, rfl⟩)
  go_ret
  exact ⟨rfl, bel_alloc (Below.refl _ _) _⟩

set_option maxHeartbeats 2000000 in
theorem implSign_any (v : Value) (ns : List Nd) (w : World) (hns : NodesAt w v ns) (hsz : ∀ nd ∈ ns, nd.s.size ≤ maxLen) (t : Tr) (hl : lvlB ns = true) (hflat : ns = t.flat 0) (hok : t.ok) (hc : ns.length ≤ 64) :
    Calls Try.prog 34 #[.agg #[v]] w fun e w' => e = .returned (.int .i64 (signN t)) ∧ Below w.heap.size w w' := by
  have HN := hide hns
  have HZ := hide hsz
  have HL := hide hl
  have HFL := hide hflat
  have HOK := hide hok
  have hcnt : t.it.cnt ≤ 1000 := by rw [it_cnt t hok, ← flat_cnt hflat]; omega
  have HI := fun f => it_num f t hok
  obtain ⟨a, cap, rfl, _, _, _⟩ := hns
  obtain ⟨Ti, vi, hvi⟩ := t.it.val_iface
  have HV := hide hvi
  clear hsz hl hflat hok hvi
  go_enter Try.func34, Try.ntmps34
  go_wp2_with fail
  refine (implLevelOk_any _ ns _ (HN.out.keep (bel_alloc (Below.refl _ _) _)) HZ.out).mono ?_
  rintro e w1 ⟨rfl, hb1⟩
  rw [HL.out]
  have c1 := keep_cell (b := w.heap.size) (o := 0) (v := .slice a ns.length cap) hb1 (by simp [go_sem])
  have hbel1 := bel_trans (bel_alloc (Below.refl w.heap.size w) _) hb1
  clear hb1
  go_wp2_with fail
  refine (levelTreeOf_any _ ns t _ (HN.out.keep hbel1) HFL.out HOK.out hc).mono ?_
  rintro e w2 ⟨rfl, hb2⟩
  have hbel2 := bel_trans hbel1 hb2
  clear hb2 hbel1 c1
  have N0 := num_all (.func (.func 84) #[] #[]) (fun _ => 0) (fun _ => True) (fun _ _ _ _ => trivial) (fun _ => by omega) (fun _ => True) (fun s _ => param_zero s) t.it hcnt (fun _ _ => trivial)
  have N1 := num_all (.func (.func 85) #[] #[]) (fun _ => 1) (fun _ => True) (fun _ _ _ _ => trivial) (fun _ => by omega) (fun _ => True) (fun s _ => param_one s) t.it hcnt (fun _ _ => trivial)
  unfold NumAt at N0 N1
  rw [HV.out, HI] at N0 N1
  have HN0 := hide N0
  have HN1 := hide N1
  have HSG : Hid (signN t = if 0 < t.weigh (fun _ => 0) then 0 else if t.weigh (fun _ => 1) = 0 then 1 else 2) := rfl
  clear N0 N1 HI
  generalize t.weigh (fun _ => 0) = x0 at *
  generalize t.weigh (fun _ => 1) = x1 at *
  rw [HV.out]
  by_cases h0 : 0 < x0
  · rw [if_pos h0] at HSG
    go_wp2_with fail
    refine (HN0.out _ trivial).mono ?_
    rintro e w3 ⟨rfl, hb3⟩
    have hbel3 := bel_trans hbel2 hb3
    clear hb3
    go_wp2_with fail
    go_ret
    exact ⟨ret_int HSG.out.symm, hbel3⟩
  · rw [if_neg h0] at HSG
    by_cases h1 : x1 = 0
    · rw [if_pos h1] at HSG
      have q : (x1 == 0) = true := beq_iff_eq.2 h1
      clear h1
      go_wp2_with fail
      refine (HN0.out _ trivial).mono ?_
      rintro e w3 ⟨rfl, hb3⟩
      have hbel3 := bel_trans hbel2 hb3
      clear hb3
      go_wp2_with fail
      refine (HN1.out _ trivial).mono ?_
      rintro e w4 ⟨rfl, hb4⟩
      have hbel4 := bel_trans hbel3 hb4
      clear hb4
      go_wp2_with fail
      go_ret
      exact ⟨ret_int HSG.out.symm, hbel4⟩
    · rw [if_neg h1] at HSG
      have q : (x1 == 0) = false := beq_eq_false_iff_ne.2 h1
      clear h1
      go_wp2_with fail
      refine (HN0.out _ trivial).mono ?_
      rintro e w3 ⟨rfl, hb3⟩
      have hbel3 := bel_trans hbel2 hb3
      clear hb3
      go_wp2_with fail
      refine (HN1.out _ trivial).mono ?_
      rintro e w4 ⟨rfl, hb4⟩
      have hbel4 := bel_trans hbel3 hb4
      clear hb4
      go_wp2_with fail
      go_ret
      exact ⟨ret_int HSG.out.symm, hbel4⟩
end Go.Proofs.Ytnifepmaijfllaa
