/- The law FnExactTokens, walked. -/
import Derived.Test.YtojpigabcahbbaaDoorHld
namespace Go.Proofs.YtojpigabcahbbaaDoor
open Go.ChangeShapes Go.WideShapes Go.ChangeAt Go.RowKit

theorem scan_len (T : ByteArray) : ∀ (m i : Nat) (acc : List Tk), T.size - i ≤ m → acc.length ≤ i → i ≤ T.size → (scan T i acc).1.length ≤ T.size := by
  intro m
  induction m with
  | zero =>
    intro i acc h1 h2 h3
    rw [scan_end (by omega)]
    show acc.length ≤ _
    omega
  | succ m ih =>
    intro i acc h1 h2 h3
    by_cases hi : i < T.size
    · cases hb : blankB (bN T i)
      · cases hp : preB dashB T i
        · cases ht : tokAt T i with
          | none => rw [scan_none hi hb hp ht]; simp
          | some x =>
            obtain ⟨tk, e⟩ := x
            have hg := tok_at hi ht
            rw [scan_some hi hb hp ht]
            exact ih e _ (by omega) (by simp; omega) (by omega)
        · obtain ⟨g1, g2, g3⟩ := scan_note (acc := acc) hi hb hp
          rw [g3]
          exact ih _ _ (by omega) (by omega) (by omega)
      · rw [scan_blank hi hb]
        exact ih _ _ (by omega) (by omega) (by omega)
    · rw [scan_end (by omega)]
      show acc.length ≤ _
      omega
theorem tokens_len (T : ByteArray) : (tokens T).1.length ≤ 20000 := by
  unfold tokens
  split
  · have := scan_len T T.size 0 [] (by omega) (by simp) (by omega)
    omega
  · simp
theorem row_far {w w' : World} {base : Nat} {e : TypeId} {s : Nat} {v : Value} {n : Nat} {xs : List Value} {g : Nat} (h : w.ownsRow base e s v n xs) (hg : w.grownBy w' (some g)) (hlt : g < base) : w'.ownsRow base e s v n xs :=
  h.kept hg (by
    cases hb : v.ownBlock with
    | none => exact .inl rfl
    | some k => exact .inr (by have := (h.lt k hb).1; simp; omega))
set_option maxRecDepth 20000 in
set_option maxHeartbeats 8000000 in
theorem tok_walk (v : Value) (T : ByteArray) (w : World) (h : BytesV w v T) (htab : Tabs w) :
    Calls Tryd.prog 3 #[v] w fun e w' => e = .returned (.bool true) ∧ Below w.heap.size w w' := by
  have HV := hide h
  have HT := hide htab
  obtain ⟨a, cap, rfl, hcap, hcm, hb⟩ := h
  unfold maxLen at hcm
  clear hb htab
  by_cases hbig : (1048576 : Int) < T.size
  · go_enter Tryd.func3, Tryd.ntmps3
    go_wp2_with fail
    go_ret
    exact ⟨rfl, Below.refl _ _⟩
  have hl : T.size ≤ 1048576 := by omega
  obtain ⟨R, hR⟩ : ∃ R, R = tokens T := ⟨_, rfl⟩
  have htl := tokens_len T
  rw [← hR] at htl
  obtain ⟨ts, cd, of⟩ := R
  have htl : ts.length ≤ 20000 := htl
  have HRE := hide hR.symm
  clear hR
  go_enter Tryd.func3, Tryd.ntmps3
  go_upto_region 4 with (first
    | (go_at_call 5; refine (toByteS_any _ T _ HV.out hl).mono ?_; rintro e w1 ⟨g1, rfl, ho1, hb1⟩; have HV1 := hide (own_bytesV ho1); have HB1 := hide hb1; clear ho1 hb1)
    | (go_at_call 4; refine (specTokens_any _ T _ HV1.out).mono ?_; rw [HRE.out]; rintro e w2 ⟨v2, rfl, hr2, hb2⟩; have HR2 := hide (show TkRow _ w2 v2 ts from hr2); have HB2 := hide hb2; have HW2 := hide (bel_trans HB1.out hb2); clear hr2 hb2)
    | fail)
  have b1 : ((cd : Int) != (cd : Int)) = false := by simp
  have b2 : ((of : Int) != (of : Int)) = false := by simp
  go_upto_region 5 with (first
    | (go_at_call 5; refine (toByteS_any _ T _ (HV.out.keep HW2.out) hl).mono ?_; rintro e w3 ⟨g3, rfl, ho3, hb3⟩; have HO3 := hide ho3; have HV3 := hide (own_bytesV ho3); have HC3 := hide hb3; have HW3 := hide (bel_trans HW2.out hb3); have LT3 := hide (ho3.lt g3 rfl); clear ho3 hb3)
    | fail)
  go_upto_region 6 with (first
    | (go_at_call 6; refine (implTokens_any _ T _ HV3.out (HT.out.keep HW3.out)).mono ?_; rw [HRE.out]; rintro e w4 ⟨v4, rfl, hr4, hb4⟩; have HR4 := hide (show TkRow _ w4 v4 ts from hr4); have HB4 := hide hb4; have HC4 := hide (bel_trans HC3.out hb4); have HW4 := hide (bel_trans HW3.out hb4); clear hr4 hb4)
    | fail)
  have HA4 := hide (show TokensAt w4 v2 ts from (TkRow.at HR2.out).keep HC4.out)
  go_upto_region 8 with (first
    | (go_at_call 7; refine (eqTokenS_any _ _ ts _ (TkRow.at HR4.out) HA4.out htl).mono ?_; rintro e w5 ⟨rfl, hb5⟩; have HB5 := hide hb5; have HC5 := hide (bel_trans HC4.out hb5); have HW5 := hide (bel_trans HW4.out hb5); clear hb5)
    | fail)
  have HO5 := hide (row_keep HB5.out (row_keep HB4.out HO3.out))
  go_upto_region 10 with (first
    | (go_at_call 5; refine (toByteS_any _ T _ (HV.out.keep HW5.out) hl).mono ?_; rintro e w6 ⟨g6, rfl, ho6, hb6⟩; have HO6 := hide ho6; have HB6 := hide hb6; have HC6 := hide (bel_trans HC5.out hb6); have HW6 := hide (bel_trans HW5.out hb6); have HX6 := hide (row_keep hb6 HO5.out); clear ho6 hb6)
    | (go_at_call 8; refine (eqByteS_any _ _ _ _ T.data.toList _ HX6.out HO6.out).mono ?_; rintro e w7 ⟨rfl, n7, hw7⟩; have HB7 := hide (show Below w6.heap.size w6 w7 from by rw [hw7]; exact below_drewN (Below.refl _ _) _); have HC7 := hide (bel_trans HC6.out HB7.out); have HW7 := hide (bel_trans HW6.out HB7.out); have HX7 := hide (row_keep HB7.out HX6.out); clear hw7)
    | fail)
  have HR7 := hide (row_keep HB7.out (row_keep HB6.out (row_keep HB5.out HR4.out)))
  go_upto_region 12 with (first
    | (go_at_call 9; refine (markByteS_any _ _ T.size _ 1 _ HX7.out hl (by omega)).mono ?_; rintro e w8 ⟨rfl, ho8, hg8⟩; have HG8 := hide (show w7.grownBy w8 (some g3) from hg8); clear ho8 hg8)
    | fail)
  have HR8 := hide (show TkRow w3.heap.size w8 v4 ts from row_far HR7.out HG8.out LT3.out.2)
  have HC8 := hide (HC7.out.grown HG8.out HC7.out.size (fun k hk => by simp at hk; rw [← hk]; exact LT3.out.1))
  have HW8 := hide (bel_trans HW2.out HC8.out)
  have HA8 := hide (show TokensAt w8 v2 ts from (TkRow.at HR2.out).keep HC8.out)
  have hn0 : ¬ ((1 + T.size : Nat) : Int) < 0 := by omega
  go_upto_region 15 with (first
    | (go_at_call 7; refine (eqTokenS_any _ _ ts _ (TkRow.at HR8.out) HA8.out htl).mono ?_; rintro e w9 ⟨rfl, hb9⟩; have HB9 := hide hb9; have HC9 := hide (bel_trans HC8.out hb9); have HW9 := hide (bel_trans HW8.out hb9); clear hb9)
    | fail)
  have HR9 := hide (show TkRow w3.heap.size w9 v4 ts from row_keep HB9.out HR8.out)
  have HZ9 := hide (show w3.heap.size ≤ w9.heap.size from Nat.le_trans (Nat.le_trans (Nat.le_trans HB4.out.size (Nat.le_trans HB5.out.size (Nat.le_trans HB6.out.size HB7.out.size))) HG8.out.size) HB9.out.size)
  obtain ⟨M, hM⟩ : ∃ M, M = 1 + ts.length * 4 := ⟨_, rfl⟩
  have HMM := hide hM
  clear hM
  go_upto_region 16 with (first
    | (go_at_call 10; refine (markTokenS_any _ _ ts 1 _ HR9.out htl (by omega) (by omega) HZ9.out).mono ?_; rw [← HMM.out]; rintro e w10 ⟨rfl, hr10, hb10⟩; have HR10 := hide hr10; have HC10 := hide (HC9.out.trans (hb10.mono HC3.out.size)); have HW10 := hide (bel_trans HW2.out HC10.out); clear hr10 hb10)
    | fail)
  have HA10 := hide (show TokensAt w10 v4 (mkTs 1 ts.length) from TkRow.at HR10.out)
  have hm0 : ¬ (M : Int) < 0 := by omega
  have hmm : ((M : Int) != (M : Int)) = false := by simp
  go_upto_region 22 with (first
    | (go_at_call 11; refine (heldTokenS_any _ ts.length 1 _ HA10.out htl (by omega) (by omega)).mono ?_; rw [← HMM.out]; rintro e w11 ⟨rfl, hb11⟩; have HB11 := hide hb11; have HC11 := hide (bel_trans HC10.out hb11); have HW11 := hide (bel_trans HW10.out hb11); clear hb11)
    | fail)
  go_upto_region 23 with (first
    | (go_at_call 5; refine (toByteS_any _ T _ (HV.out.keep HW11.out) hl).mono ?_; rintro e w12 ⟨g12, rfl, ho12, hb12⟩; have HV12 := hide (own_bytesV ho12); have HB12 := hide hb12; have HC12 := hide (bel_trans HC11.out hb12); have HW12 := hide (bel_trans HW11.out hb12); clear ho12 hb12)
    | (go_at_call 6; refine (implTokens_any _ T _ HV12.out (HT.out.keep HW12.out)).mono ?_; rw [HRE.out]; rintro e w13 ⟨v13, rfl, hr13, hb13⟩; have HR13 := hide (show TkRow _ w13 v13 ts from hr13); have HB13 := hide hb13; have HC13 := hide (bel_trans HC12.out hb13); have HW13 := hide (bel_trans HW12.out hb13); clear hr13 hb13)
    | fail)
  have HA13 := hide (show TokensAt w13 v2 ts from (TkRow.at HR2.out).keep HC13.out)
  go_upto_region 26 with (first
    | (go_at_call 7; refine (eqTokenS_any _ _ ts _ (TkRow.at HR13.out) HA13.out htl).mono ?_; rintro e w14 ⟨rfl, hb14⟩; have HB14 := hide hb14; have HW14 := hide (bel_trans HW13.out hb14); clear hb14)
    | fail)
  have HA14 := hide ((((HA10.out.keep HB11.out).keep HB12.out).keep HB13.out).keep HB14.out)
  go_wp2_with (first
    | (go_at_call 11; refine (heldTokenS_any _ ts.length 1 _ HA14.out htl (by omega) (by omega)).mono ?_; rw [← HMM.out]; rintro e w15 ⟨rfl, hb15⟩; have HW15 := hide (bel_trans HW14.out hb15); clear hb15)
    | fail)
  go_ret
  exact ⟨rfl, HW15.out⟩
end Go.Proofs.YtojpigabcahbbaaDoor
