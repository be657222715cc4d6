/- Uses, on both sides. -/
import Derived.Test.YtlhhdhmhncjilaaGreatUsB
import Derived.Test.YtlhhdhmhncjilaaGreatUsD
namespace Go.Proofs.YtlhhdhmhncjilaaGreat
open Go.ChangeShapes Go.WideShapes Go.ChangeAt Go.RowKit

/-- How often a term uses a variable; none where it is not valid. -/
def usesT (ts : List Td) (v : Int) : Int := if termB ts = true ∧ 0 ≤ v ∧ v ≤ 20000 then usesN ts ts.length (ts.length - 1) v else 0
theorem uses_far {ts : List Td} (ht : termB ts = true) (v : Int) (hv : 20000 < v) : usesN ts ts.length (ts.length - 1) v = 0 := by
  have hl : 1 ≤ ts.length := (root_sz ht).1
  obtain ⟨m, hm⟩ : ∃ m, ts.length = m + 1 := ⟨ts.length - 1, by omega⟩
  have h1 := lo_le ht (ts.length - 1) (by omega)
  have h2 := usesN_succ ts m (ts.length - 1) v (by omega)
  rw [if_pos (by omega)] at h2
  rw [show usesN ts ts.length = usesN ts (m + 1) by rw [← hm]]
  exact h2
set_option maxRecDepth 20000 in
set_option maxHeartbeats 4000000 in
theorem specUses_any (v : Value) (ts : List Td) (n : Int) (w : World) (hns : TNodesAt w v ts) (hsz : ∀ td ∈ ts, TLens td) (hlv : ∀ td ∈ ts, td.lv.length ≤ 1048576) :
    Calls Tryz.prog 10 #[.agg #[v], .int .i64 n] w fun e w' => e = .returned (.int .i64 (usesT ts n)) ∧ Below w.heap.size w w' := by
  have HT := hide (fun W (hb : Below w.heap.size w W) => l3TreeF_any v ts W (hns.keep hb) hsz hlv)
  have HB1 := hide (bel_alloc (Below.refl w.heap.size w) (.cells #[v] 29))
  obtain ⟨a, cap, rfl, _, _, _⟩ := hns
  clear hsz hlv
  go_enter Tryz.func10, Tryz.ntmps10
  go_wp2_with fail
  refine (HT.out _ HB1.out).mono ?_
  rintro e w2 ⟨he, hb2⟩
  have HB2 := hide (bel_trans HB1.out hb2)
  clear hb2 HB1 HT
  rcases he with ⟨ht, rfl⟩ | ⟨ht, _, pt, Q, rfl, hf, _⟩
  · have HE : Hid (usesT ts n = 0) := by show usesT ts n = 0; unfold usesT; rw [if_neg (by simp [ht])]
    clear ht
    have HN := hide (tnone_none w2)
    go_wp2_with (go_at_call 14; refine HN.out.mono ?_; rintro e w3 ⟨rfl, hw⟩; have hw := hw.symm; subst hw)
    go_ret
    exact ⟨by rw [HE.out] <;> rfl, HB2.out⟩
  · have hl : 1 ≤ ts.length := (root_sz ht).1
    have hlen := len_of ht
    have HC := hide (fun h0 h1 => l3Uses_all (pt := pt) ht ts.length (ts.length - 1) w2 Q n (by omega) (by omega) hf h0 h1)
    have HFAR : Hid (¬ (0 ≤ n ∧ n ≤ 20000) → usesT ts n = 0) := fun h => by unfold usesT; rw [if_neg (fun h2 => h h2.2)]
    have HNEAR : Hid (0 ≤ n ∧ n ≤ 20000 → usesT ts n = usesN ts ts.length (ts.length - 1) n) := fun h => by unfold usesT; rw [if_pos ⟨ht, h⟩]
    clear ht hf
    have hm1 : ((ts.length - 1 : Nat) : Int) ≤ 20000 := by omega
    generalize pt (ts.length - 1) = pb at *
    have HN := hide (tnone_some ⟨pb, 0, none⟩ w2)
    by_cases h0 : n < 0
    · have HE := hide (HFAR.out (by omega))
      have d0 : decide (n < 0) = true := by simp [h0]
      clear h0 HC HFAR HNEAR
      go_wp2_with (go_at_call 14; refine HN.out.mono ?_; rintro e w3 ⟨rfl, hw⟩; have hw := hw.symm; subst hw)
      go_ret
      exact ⟨by rw [HE.out] <;> rfl, HB2.out⟩
    have d0 : decide (n < 0) = false := by simp; omega
    by_cases h2 : 20000 < n
    · have HE := hide (HFAR.out (by omega))
      have d2 : decide (20000 < n) = true := by simp [h2]
      clear h0 h2 HC HFAR HNEAR
      go_wp2_with (go_at_call 14; refine HN.out.mono ?_; rintro e w3 ⟨rfl, hw⟩; have hw := hw.symm; subst hw)
      go_ret
      exact ⟨by rw [HE.out] <;> rfl, HB2.out⟩
    · have HE := hide (HNEAR.out (by omega))
      have d2 : decide (20000 < n) = false := by simp; omega
      have HC := hide (HC.out (by omega) (by omega))
      clear h0 h2 HFAR HNEAR
      go_wp2_with (first
        | (go_at_call 14; refine HN.out.mono ?_; rintro e w3 ⟨rfl, hw⟩; have hw := hw.symm; subst hw)
        | (go_at_call 19; refine HC.out.mono ?_; rintro e w4 ⟨rfl, hb4⟩; have HB4 := hide (bel_trans HB2.out hb4); clear hb4))
      go_ret
      exact ⟨by rw [HE.out] <;> rfl, HB4.out⟩

set_option maxRecDepth 20000 in
set_option maxHeartbeats 4000000 in
theorem implUses_any (v : Value) (ts : List Td) (n : Int) (w : World) (hns : TNodesAt w v ts) (hsz : ∀ td ∈ ts, TLens td) (hsm : ∀ td ∈ ts, TSmall td) (hsp : ∀ td ∈ ts, (spell td.lv).length ≤ 1000000000) :
    Calls Tryz.prog 11 #[.agg #[v], .int .i64 n] w fun e w' => e = .returned (.int .i64 (usesT ts n)) ∧ Below w.heap.size w w' := by
  have hmf : ∀ (fn : Fn) (first cap : Array Value) (w : World), (Instr.makeFunc fn first cap).run Tryz.prog w = .ok (.func fn first cap) w := fun _ _ _ _ => rfl
  obtain ⟨W, hW⟩ : ∃ W, W = ((w.alloc (.cells #[v] 29)).alloc (.cells #[.int .i64 n] 3)).drew := ⟨_, rfl⟩
  have hbW : Below w.heap.size w W := by rw [hW]; exact (bel_alloc (bel_alloc (Below.refl w.heap.size w) _) _).drew
  have HNW := hide (hns.keep hbW)
  have HSZ := hide hsz
  have HSM := hide hsm
  have HSP := hide hsp
  have HBW := hide hbW
  have HW := hide hW
  obtain ⟨a, cap, rfl, _, _, _⟩ := hns
  have hS0 : (fun w' : World => w'.cell? ⟨w.heap.size, 0, none⟩ = some (.slice a ts.length cap)) ((w.alloc (.cells #[.slice a ts.length cap] 29)).alloc (.cells #[.int .i64 n] 3)).drew := by show World.cell? _ _ = _; simp [go_sem]
  have HS0 := hide (show W.cell? ⟨w.heap.size, 0, none⟩ = some (.slice a ts.length cap) by rw [hW]; exact hS0)
  have HV0 := hide (show W.cell? ⟨w.heap.size + 1, 0, none⟩ = some (.int .i64 n) by rw [hW]; simp [go_sem])
  clear hsz hsm hsp hbW hW
  go_enter Tryz.func11, Tryz.ntmps11
  go_wp2_with fail
  refine anyE_region (L := 7) (S := fun w' : World => w'.cell? ⟨w.heap.size, 0, none⟩ = some (.slice a ts.length cap)) (by kernel_rfl) ?_
  refine anyE_take 1 (v := ?v1) rfl (by kernel_rfl) (by kernel_rfl) (by kernel_rfl) (by kernel_rfl) (fun _ _ _ h => h) (by rfl) ?hy1 hS0 ?rest1
  case hy1 =>
    intro wx hx
    have hx : wx.cell? ⟨w.heap.size, 0, none⟩ = some (.slice a ts.length cap) := hx
    go_simp
    try rfl
  case rest1 =>
  intro K hK
  go_simp
  refine hK.out _ ?_
  clear hK K
  rw [← HW.out]
  refine anyE_one 0 (by kernel_rfl) rfl (fun K hK => ?_)
  go_simp
  refine (newStore_any W).mono ?_
  rintro e w2 ⟨⟨Sb, mb, gb, rfl, hs2⟩, hb2⟩
  have hS2 := keep_cell hb2 HS0.out
  refine hK.out _ _ (fun _ => hS2) ?_
  clear hK K hS0
  refine anyE_one 2 (by kernel_rfl) rfl (fun K hK => ?_)
  go_simp
  refine (read_any _ ts W w2 Sb mb gb _ _ HNW.out HSZ.out HSM.out HSP.out hb2 hs2).mono ?_
  rintro e w3 ⟨he, hb3⟩
  have hS3 : w3.cell? ⟨w.heap.size, 0, none⟩ = some (.slice a ts.length cap) := keep_cell hb3 HS0.out
  have hV3 := keep_cell hb3 HV0.out
  have hvl := lt_cell hV3
  have HB3 := hide (bel_trans HBW.out hb3)
  have HBS := hide hb3.size
  clear hs2 hb2 hb3 hS2
  rcases he with ⟨ht, rfl⟩ | ⟨ht, pt, clock, L, Z, H, rfl, hs3, hr3⟩
  · have HE : Hid (usesT ts n = 0) := by show usesT ts n = 0; unfold usesT; rw [if_neg (by simp [ht])]
    clear ht
    refine hK.out _ _ (fun _ => hS3) ?_
    clear hK K
    refine anyE_take 3 (v := ?v2) rfl (by kernel_rfl) (by kernel_rfl) (by kernel_rfl) (by kernel_rfl) (fun _ _ _ h => h) (by rfl) ?hy2 hS3 ?rest2
    case hy2 =>
      intro wx hx
      have hx : wx.cell? ⟨w.heap.size, 0, none⟩ = some (.slice a ts.length cap) := hx
      go_simp
      try rfl
    case rest2 =>
    intro K hK
    go_simp
    refine hK.out _ ?_
    clear hK K
    refine anyE_take 4 (v := ?v3) rfl (by kernel_rfl) (by kernel_rfl) (by kernel_rfl) (by kernel_rfl) (fun _ _ _ h => h) (by rfl) ?hy3 hS3 ?rest3
    case hy3 =>
      intro wx hx
      have hx : wx.cell? ⟨w.heap.size, 0, none⟩ = some (.slice a ts.length cap) := hx
      go_simp
      try rfl
    case rest3 =>
    intro K hK
    go_simp
    refine hK.out _ ?_
    clear hK K
    refine anyE_take 5 (v := ?v4) rfl (by kernel_rfl) (by kernel_rfl) (by kernel_rfl) (by kernel_rfl) (fun _ _ _ h => h) (by rfl) ?hy4 hS3 ?rest4
    case hy4 =>
      intro wx hx
      have hx : wx.cell? ⟨w.heap.size, 0, none⟩ = some (.slice a ts.length cap) := hx
      go_simp
      try rfl
    case rest4 =>
    intro K hK
    go_simp
    refine hK.out _ ?_
    clear hK K
    refine anyE_take 6 (v := ?v5) rfl (by kernel_rfl) (by kernel_rfl) (by kernel_rfl) (by kernel_rfl) (fun _ _ _ h => h) (by rfl) ?hy5 hS3 ?rest5
    case hy5 =>
      intro wx hx
      have hx : wx.cell? ⟨w.heap.size, 0, none⟩ = some (.slice a ts.length cap) := hx
      go_simp
      try rfl
    case rest5 =>
    intro K hK
    go_simp
    refine hK.out _ ?_
    clear hK K
    refine anyE_one 7 (by kernel_rfl) rfl (fun K hK => ?_)
    go_simp
    refine hK.out _ _ (fun h => absurd rfl h) ?_
    clear hK K
    refine anyE_done (by kernel_rfl) ?_ _
    go_wp2_with fail
    go_ret
    exact ⟨by rw [HE.out] <;> rfl, HB3.out⟩
  · have hl : 1 ≤ ts.length := (root_sz ht).1
    have hlen := len_of ht
    have HC : Hid (Calls Tryz.prog 20 #[.pointer (some ⟨pt (ts.length - 1), 0, none⟩), .int .i64 0, .func (.func 21) #[] #[.pointer (some ⟨w.heap.size + 1, 0, none⟩)], .func (.func 22) #[] #[]] w3 fun e w' => e = .returned (.int .i64 (usesN ts ts.length (ts.length - 1) n)) ∧ Below w3.heap.size w3 w') := by
      have h := fold_all (vb := w.heap.size + 1) (v := n) ht hr3 ts.length (ts.length - 1) w3 0 (by omega) (by omega) hs3 HBS.out hV3 (by omega) (by omega)
      rw [show n + 0 = n by omega] at h
      exact h
    have HNEG : Hid (n < 0 → usesT ts n = 0) := fun h => by unfold usesT; rw [if_neg (fun h2 => by omega)]
    have HPOS : Hid (0 ≤ n → usesT ts n = usesN ts ts.length (ts.length - 1) n) := fun h => by
      unfold usesT
      by_cases h2 : n ≤ 20000
      · rw [if_pos ⟨ht, h, h2⟩]
      · rw [if_neg (fun h3 => h2 h3.2.2), uses_far ht n (by omega)]
    clear ht hs3 hr3
    generalize pt (ts.length - 1) = pb at *
    refine hK.out _ _ (fun _ => hS3) ?_
    clear hK K
    refine anyE_take 3 (v := ?v6) rfl (by kernel_rfl) (by kernel_rfl) (by kernel_rfl) (by kernel_rfl) (fun _ _ _ h => h) (by rfl) ?hy6 hS3 ?rest6
    case hy6 =>
      intro wx hx
      have hx : wx.cell? ⟨w.heap.size, 0, none⟩ = some (.slice a ts.length cap) := hx
      go_simp
      try rfl
    case rest6 =>
    intro K hK
    go_simp
    refine hK.out _ ?_
    clear hK K
    refine anyE_take 4 (v := ?v7) rfl (by kernel_rfl) (by kernel_rfl) (by kernel_rfl) (by kernel_rfl) (fun _ _ _ h => h) (by rfl) ?hy7 hS3 ?rest7
    case hy7 =>
      intro wx hx
      have hx : wx.cell? ⟨w.heap.size, 0, none⟩ = some (.slice a ts.length cap) := hx
      go_simp
      try rfl
    case rest7 =>
    intro K hK
    go_simp
    refine hK.out _ ?_
    clear hK K
    refine anyE_take 5 (v := ?v8) rfl (by kernel_rfl) (by kernel_rfl) (by kernel_rfl) (by kernel_rfl) (fun _ _ _ h => h) (by rfl) ?hy8 hS3 ?rest8
    case hy8 =>
      intro wx hx
      have hx : wx.cell? ⟨w.heap.size, 0, none⟩ = some (.slice a ts.length cap) := hx
      go_simp
      try rfl
    case rest8 =>
    intro K hK
    go_simp
    refine hK.out _ ?_
    clear hK K
    refine anyE_take 6 (v := ?v9) rfl (by kernel_rfl) (by kernel_rfl) (by kernel_rfl) (by kernel_rfl) (fun _ _ _ h => h) (by rfl) ?hy9 hS3 ?rest9
    case hy9 =>
      intro wx hx
      have hx : wx.cell? ⟨w.heap.size, 0, none⟩ = some (.slice a ts.length cap) := hx
      go_simp
      try rfl
    case rest9 =>
    intro K hK
    go_simp
    refine hK.out _ ?_
    clear hK K
    refine anyE_one 7 (by kernel_rfl) rfl (fun K hK => ?_)
    go_simp
    refine hK.out _ _ (fun h => absurd rfl h) ?_
    clear hK K
    refine anyE_done (by kernel_rfl) ?_ _
    by_cases h0 : n < 0
    · have HE := hide (HNEG.out h0)
      have d0 : decide (n < 0) = true := by simp [h0]
      clear h0 HNEG HPOS HC
      go_wp2_with fail
      go_ret
      exact ⟨by rw [HE.out] <;> rfl, HB3.out⟩
    · have HE := hide (HPOS.out (by omega))
      have d0 : decide (n < 0) = false := by simp; omega
      clear h0 HNEG HPOS
      go_wp2_with fail
      refine HC.out.mono ?_
      rintro e w4 ⟨rfl, hb4⟩
      have HB4 := hide (bel_trans HB3.out hb4)
      clear hb4
      go_wp2_with fail
      go_ret
      exact ⟨by rw [HE.out] <;> rfl, HB4.out⟩
end Go.Proofs.YtlhhdhmhncjilaaGreat
