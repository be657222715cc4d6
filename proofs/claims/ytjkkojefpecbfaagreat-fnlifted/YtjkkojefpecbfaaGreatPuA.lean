/- Uses, on both sides. -/
import Derived.Test.YtjkkojefpecbfaaGreatUsD
import Derived.Test.YtjkkojefpecbfaaGreatTeF
import Derived.Test.YtjkkojefpecbfaaGreatTeC
namespace Go.Proofs.YtjkkojefpecbfaaGreat
open Go.ChangeShapes Go.WideShapes Go.ChangeAt Go.RowKit

/-- How often a term uses a variable; none where it is not valid. -/
def usesT (ts : List Td) (v : Int) : Int := if termB ts = true ∧ 0 ≤ v ∧ v ≤ 20000 then usesN ts ts.length (ts.length - 1) v else 0
theorem uses_far {ts : List Td} (ht : termB ts = true) (v : Int) (hv : 20000 < v) : usesN ts ts.length (ts.length - 1) v = 0 := by
  have hl : 1 ≤ ts.length := (root_sz ht).1
  obtain ⟨m, hm⟩ : ∃ m, ts.length = m + 1 := ⟨ts.length - 1, by omega⟩
  have h1 := lo_le ht (ts.length - 1) (by omega)
  have h2 := usesN_succ ts m (ts.length - 1) v (by omega)
  rw [if_pos (by omega)] at h2
  rw [show usesN ts ts.length = usesN ts (m + 1) by rw [← hm]]
  exact h2
set_option maxRecDepth 20000 in
set_option maxHeartbeats 4000000 in
theorem implUses_any (v : Value) (ts : List Td) (n : Int) (w : World) (hns : TNodesAt w v ts) (hsz : ∀ td ∈ ts, TLens td) (hsm : ∀ td ∈ ts, TSmall td) (hsp : ∀ td ∈ ts, (spell td.lv).length ≤ 1000000000) :
    Calls Tryz.prog 45 #[.agg #[v], .int .i64 n] w fun e w' => e = .returned (.int .i64 (usesT ts n)) ∧ Below w.heap.size w w' := by
  have hmf : ∀ (fn : Fn) (first cap : Array Value) (w : World), (Instr.makeFunc fn first cap).run Tryz.prog w = .ok (.func fn first cap) w := fun _ _ _ _ => rfl
  obtain ⟨W, hW⟩ : ∃ W, W = ((w.alloc (.cells #[v] 28)).alloc (.cells #[.int .i64 n] 3)).drew := ⟨_, rfl⟩
  have hbW : Below w.heap.size w W := by rw [hW]; exact (bel_alloc (bel_alloc (Below.refl w.heap.size w) _) _).drew
  have HNW := hide (hns.keep hbW)
  have HSZ := hide hsz
  have HSM := hide hsm
  have HSP := hide hsp
  have HBW := hide hbW
  have HW := hide hW
  obtain ⟨a, cap, rfl, _, _, _⟩ := hns
  have hS0 : (fun w' : World => w'.cell? ⟨w.heap.size, 0, none⟩ = some (.slice a ts.length cap)) ((w.alloc (.cells #[.slice a ts.length cap] 28)).alloc (.cells #[.int .i64 n] 3)).drew := by show World.cell? _ _ = _; simp [go_sem]
  have HS0 := hide (show W.cell? ⟨w.heap.size, 0, none⟩ = some (.slice a ts.length cap) by rw [hW]; exact hS0)
  have HV0 := hide (show W.cell? ⟨w.heap.size + 1, 0, none⟩ = some (.int .i64 n) by rw [hW]; simp [go_sem])
  clear hsz hsm hsp hbW hW
  go_enter Tryz.func45, Tryz.ntmps45
  go_wp2_with fail
  refine anyE_region (L := 7) (S := fun w' : World => w'.cell? ⟨w.heap.size, 0, none⟩ = some (.slice a ts.length cap)) (by kernel_rfl) ?_
  refine anyE_take 1 (v := ?v1) rfl (by kernel_rfl) (by kernel_rfl) (by kernel_rfl) (by kernel_rfl) (fun _ _ _ h => h) (by rfl) ?hy1 hS0 ?rest1
  case hy1 =>
    intro wx hx
    have hx : wx.cell? ⟨w.heap.size, 0, none⟩ = some (.slice a ts.length cap) := hx
    go_simp
    try rfl
  case rest1 =>
  intro K hK
  go_simp
  refine hK.out _ ?_
  clear hK K
  rw [← HW.out]
  refine anyE_one 0 (by kernel_rfl) rfl (fun K hK => ?_)
  go_simp
  refine (newStore_any W).mono ?_
  rintro e w2 ⟨⟨Sb, mb, gb, rfl, hs2⟩, hb2⟩
  have hS2 := keep_cell hb2 HS0.out
  refine hK.out _ _ (fun _ => hS2) ?_
  clear hK K hS0
  refine anyE_one 2 (by kernel_rfl) rfl (fun K hK => ?_)
  go_simp
  refine (read_any _ ts W w2 Sb mb gb _ _ HNW.out HSZ.out HSM.out HSP.out hb2 hs2).mono ?_
  rintro e w3 ⟨he, hb3⟩
  have hS3 : w3.cell? ⟨w.heap.size, 0, none⟩ = some (.slice a ts.length cap) := keep_cell hb3 HS0.out
  have hV3 := keep_cell hb3 HV0.out
  have hvl := lt_cell hV3
  have HB3 := hide (bel_trans HBW.out hb3)
  have HBS := hide hb3.size
  clear hs2 hb2 hb3 hS2
  rcases he with ⟨ht, rfl⟩ | ⟨ht, pt, clock, L, Z, H, rfl, hs3, hr3⟩
  · have HE : Hid (usesT ts n = 0) := by show usesT ts n = 0; unfold usesT; rw [if_neg (by simp [ht])]
    clear ht
    refine hK.out _ _ (fun _ => hS3) ?_
    clear hK K
    refine anyE_take 3 (v := ?v2) rfl (by kernel_rfl) (by kernel_rfl) (by kernel_rfl) (by kernel_rfl) (fun _ _ _ h => h) (by rfl) ?hy2 hS3 ?rest2
    case hy2 =>
      intro wx hx
      have hx : wx.cell? ⟨w.heap.size, 0, none⟩ = some (.slice a ts.length cap) := hx
      go_simp
      try rfl
    case rest2 =>
    intro K hK
    go_simp
    refine hK.out _ ?_
    clear hK K
    refine anyE_take 4 (v := ?v3) rfl (by kernel_rfl) (by kernel_rfl) (by kernel_rfl) (by kernel_rfl) (fun _ _ _ h => h) (by rfl) ?hy3 hS3 ?rest3
    case hy3 =>
      intro wx hx
      have hx : wx.cell? ⟨w.heap.size, 0, none⟩ = some (.slice a ts.length cap) := hx
      go_simp
      try rfl
    case rest3 =>
    intro K hK
    go_simp
    refine hK.out _ ?_
    clear hK K
    refine anyE_take 5 (v := ?v4) rfl (by kernel_rfl) (by kernel_rfl) (by kernel_rfl) (by kernel_rfl) (fun _ _ _ h => h) (by rfl) ?hy4 hS3 ?rest4
    case hy4 =>
      intro wx hx
      have hx : wx.cell? ⟨w.heap.size, 0, none⟩ = some (.slice a ts.length cap) := hx
      go_simp
      try rfl
    case rest4 =>
    intro K hK
    go_simp
    refine hK.out _ ?_
    clear hK K
    refine anyE_take 6 (v := ?v5) rfl (by kernel_rfl) (by kernel_rfl) (by kernel_rfl) (by kernel_rfl) (fun _ _ _ h => h) (by rfl) ?hy5 hS3 ?rest5
    case hy5 =>
      intro wx hx
      have hx : wx.cell? ⟨w.heap.size, 0, none⟩ = some (.slice a ts.length cap) := hx
      go_simp
      try rfl
    case rest5 =>
    intro K hK
    go_simp
    refine hK.out _ ?_
    clear hK K
    refine anyE_one 7 (by kernel_rfl) rfl (fun K hK => ?_)
    go_simp
    refine hK.out _ _ (fun h => absurd rfl h) ?_
    clear hK K
    refine anyE_done (by kernel_rfl) ?_ _
    go_wp2_with fail
    go_ret
    exact ⟨by rw [HE.out] <;> rfl, HB3.out⟩
  · have hl : 1 ≤ ts.length := (root_sz ht).1
    have hlen := len_of ht
    have HC : Hid (Calls Tryz.prog 86 #[.pointer (some ⟨pt (ts.length - 1), 0, none⟩), .int .i64 0, .func (.func 87) #[] #[.pointer (some ⟨w.heap.size + 1, 0, none⟩)], .func (.func 88) #[] #[]] w3 fun e w' => e = .returned (.int .i64 (usesN ts ts.length (ts.length - 1) n)) ∧ Below w3.heap.size w3 w') := by
      have h := fold_all (vb := w.heap.size + 1) (v := n) ht hr3 ts.length (ts.length - 1) w3 0 (by omega) (by omega) hs3 HBS.out hV3 (by omega) (by omega)
      rw [show n + 0 = n by omega] at h
      exact h
    have HNEG : Hid (n < 0 → usesT ts n = 0) := fun h => by unfold usesT; rw [if_neg (fun h2 => by omega)]
    have HPOS : Hid (0 ≤ n → usesT ts n = usesN ts ts.length (ts.length - 1) n) := fun h => by
      unfold usesT
      by_cases h2 : n ≤ 20000
      · rw [if_pos ⟨ht, h, h2⟩]
      · rw [if_neg (fun h3 => h2 h3.2.2), uses_far ht n (by omega)]
    clear ht hs3 hr3
    generalize pt (ts.length - 1) = pb at *
    refine hK.out _ _ (fun _ => hS3) ?_
    clear hK K
    refine anyE_take 3 (v := ?v6) rfl (by kernel_rfl) (by kernel_rfl) (by kernel_rfl) (by kernel_rfl) (fun _ _ _ h => h) (by rfl) ?hy6 hS3 ?rest6
    case hy6 =>
      intro wx hx
      have hx : wx.cell? ⟨w.heap.size, 0, none⟩ = some (.slice a ts.length cap) := hx
      go_simp
      try rfl
    case rest6 =>
    intro K hK
    go_simp
    refine hK.out _ ?_
    clear hK K
    refine anyE_take 4 (v := ?v7) rfl (by kernel_rfl) (by kernel_rfl) (by kernel_rfl) (by kernel_rfl) (fun _ _ _ h => h) (by rfl) ?hy7 hS3 ?rest7
    case hy7 =>
      intro wx hx
      have hx : wx.cell? ⟨w.heap.size, 0, none⟩ = some (.slice a ts.length cap) := hx
      go_simp
      try rfl
    case rest7 =>
    intro K hK
    go_simp
    refine hK.out _ ?_
    clear hK K
    refine anyE_take 5 (v := ?v8) rfl (by kernel_rfl) (by kernel_rfl) (by kernel_rfl) (by kernel_rfl) (fun _ _ _ h => h) (by rfl) ?hy8 hS3 ?rest8
    case hy8 =>
      intro wx hx
      have hx : wx.cell? ⟨w.heap.size, 0, none⟩ = some (.slice a ts.length cap) := hx
      go_simp
      try rfl
    case rest8 =>
    intro K hK
    go_simp
    refine hK.out _ ?_
    clear hK K
    refine anyE_take 6 (v := ?v9) rfl (by kernel_rfl) (by kernel_rfl) (by kernel_rfl) (by kernel_rfl) (fun _ _ _ h => h) (by rfl) ?hy9 hS3 ?rest9
    case hy9 =>
      intro wx hx
      have hx : wx.cell? ⟨w.heap.size, 0, none⟩ = some (.slice a ts.length cap) := hx
      go_simp
      try rfl
    case rest9 =>
    intro K hK
    go_simp
    refine hK.out _ ?_
    clear hK K
    refine anyE_one 7 (by kernel_rfl) rfl (fun K hK => ?_)
    go_simp
    refine hK.out _ _ (fun h => absurd rfl h) ?_
    clear hK K
    refine anyE_done (by kernel_rfl) ?_ _
    by_cases h0 : n < 0
    · have HE := hide (HNEG.out h0)
      have d0 : decide (n < 0) = true := by simp [h0]
      clear h0 HNEG HPOS HC
      go_wp2_with fail
      go_ret
      exact ⟨by rw [HE.out] <;> rfl, HB3.out⟩
    · have HE := hide (HPOS.out (by omega))
      have d0 : decide (n < 0) = false := by simp; omega
      clear h0 HNEG HPOS
      go_wp2_with fail
      refine HC.out.mono ?_
      rintro e w4 ⟨rfl, hb4⟩
      have HB4 := hide (bel_trans HB3.out hb4)
      clear hb4
      go_wp2_with fail
      go_ret
      exact ⟨by rw [HE.out] <;> rfl, HB4.out⟩
end Go.Proofs.YtjkkojefpecbfaaGreat

/- What lifter and the function that it gives answer. -/
namespace Go.Proofs.YtjkkojefpecbfaaGreat
open Go.ChangeShapes Go.WideShapes Go.ChangeAt Go.RowKit

/-- The room that is left, in its variable. -/
def RoomAt (w : World) (cr : Nat) (r : Int) : Prop := w.heap[cr]? = some (.cells #[.int .i64 r] 3 (0, 0))
/-- What the function of lifter answers. -/
def LftOut (base Sb mb gb cr : Nat) (L : List (Nk × Nat × Nat)) (A : Tt) (u r : Int) (w : World) (e : Ending) (w' : World) : Prop :=
  ∃ (b' clock' : Nat) (L' : List (Nk × Nat × Nat)) (Z' : Nat → Zs) (H' : Nat → Bool), e = .returned (.pointer (some ⟨b', 0, none⟩)) ∧ St base w' Sb mb gb clock' L' Z' H' ∧ (∀ x ∈ L, x ∈ L') ∧ KeptX (fun k => k = mb ∨ k = cr) w w' ∧ RoomAt w' cr (r - ((A.cnt - 1 : Nat) : Int)) ∧ Res gb L' (if r - ((A.cnt - 1 : Nat) : Int) < 0 then none else (chgS (knowL 0 u) A 0 ()).1) b'
set_option maxRecDepth 20000 in
set_option maxHeartbeats 8000000 in
theorem lifter1_any (base Sb mb gb clock cr cs : Nat) (L : List (Nk × Nat × Nat)) (Z : Nat → Zs) (H : Nat → Bool) (A : Tt) (ab : Nat) (u r : Int) (w : World) (hs : St base w Sb mb gb clock L Z H) (hbase : base ≤ w.heap.size) (hT : IsT L A ab) (hP : A.all nodeP) (hu : 0 ≤ u ∧ u ≤ 100000) (hr : -2000000000000 ≤ r ∧ r ≤ 20000) (hc : RoomAt w cr r) (hs2 : w.cell? ⟨cs, 0, none⟩ = some (.pointer (some ⟨Sb, 0, none⟩))) (hcr : base ≤ cr) (hne : cs ≠ cr) :
    Calls Tryz.prog 156 #[.pointer (some ⟨ab, 0, none⟩), .int .i64 u, .pointer (some ⟨cr, 0, none⟩), .pointer (some ⟨cs, 0, none⟩)] w (LftOut base Sb mb gb cr L A u r w) := by
  have hz := ist_z hs A.cnt A ab (Nat.le_refl _) hT
  obtain ⟨ps, c, hpl, hm, _⟩ := ist_open hT
  obtain ⟨lv, ls, nb, _⟩ := (hs.ents _ hm).node
  have nb : NbAt w ab (tmL (keyP A.hd ps) lv (Z ab) (H ab)) := nb
  rw [hz] at nb
  have hcnt := (ist_lt hs hT).1
  have hcp := A.cnt_pos
  obtain ⟨N, hN⟩ : ∃ N : Int, N = (A.cnt : Int) := ⟨_, rfl⟩
  have a9 : w.cell? ⟨ab, 9, none⟩ = some (.int .i64 N) := by rw [hN, nb.cell 9 (by omega), ← A.z_sz]; rfl
  have c0 : w.cell? ⟨cr, 0, none⟩ = some (.int .i64 r) := by rw [Lib.cell_of_heap hc]; rfl
  have f0 : w.frozen? ⟨cr, 0, none⟩ = false := Lib.frozen_of_heap hc 0
  have hAl := lt_cell a9
  have hrl := lt_cell c0
  have hsl := lt_cell hs2
  obtain ⟨d, hd⟩ : ∃ d : Int, d = ((A.cnt - 1 : Nat) : Int) := ⟨_, rfl⟩
  have hd2 : N - 1 = d := by omega
  have hd0 : 0 ≤ d ∧ d ≤ 20000 := by omega
  unfold LftOut
  rw [← hd]
  have hw1 : IntKind.i64.wrap (N - 1) = d := by rw [IntKind.wrap_i64]; omega
  have hw2 : IntKind.i64.wrap (r - d) = r - d := by rw [IntKind.wrap_i64]; omega
  have hw1' : wrap64 (N - 1) = d := by unfold wrap64; omega
  have hw2' : wrap64 (r - d) = r - d := by unfold wrap64; omega
  obtain ⟨V, hV⟩ : ∃ V, V = w.drew := ⟨_, rfl⟩
  have hbV : Below w.heap.size w V := by rw [hV]; exact (Below.refl _ _).drew
  obtain ⟨W, hW⟩ : ∃ W, W = V.setCell ⟨cr, 0, none⟩ (.int .i64 (r - d)) := ⟨_, rfl⟩
  have hrV : RoomAt V cr r := by rw [hV]; exact hc
  have hrW : RoomAt W cr (r - d) := by rw [hW]; exact set_one hrV _
  have hg : V.grownBy W (some cr) := by rw [hW]; exact grown_set V ⟨cr, 0, none⟩ _
  have hcm : cr ≠ mb := fun e => by
    have h1 := hs.mp
    rw [← e, hc] at h1
    cases h1
  have HSW := hide ((hs.keep hbV hbase).other hrV (by decide) (by decide) hg hcr (Nat.le_trans hbase hbV.size))
  have hkW : KeptX (fun k => k = mb ∨ k = cr) w W := (KeptX.of hbV).trans (KeptX.grown hg (fun x hx => .inr (Option.some.inj hx).symm))
  have s1 : W.cell? ⟨cs, 0, none⟩ = some (.pointer (some ⟨Sb, 0, none⟩)) := heap_cell (hg.block cs (by have := hbV.size; omega) (fun e => hne (Option.some.inj e))) (keep_cell hbV hs2)
  have c1 : W.cell? ⟨cr, 0, none⟩ = some (.int .i64 (r - d)) := by rw [Lib.cell_of_heap hrW]; rfl
  have hb1 : base ≤ W.heap.size := Nat.le_trans hbase hkW.size
  have k1 := HSW.out.cell.2
  have hk1 := lt_cell k1
  have hr1 := lt_cell c1
  have hs1 := lt_cell s1
  have HL := hide (lift_any base Sb mb gb clock L Z H A ab 0 u W HSW.out hb1 hT hP (by omega) hu)
  have HKW := hide hkW
  have HRW := hide hrW
  have c0v : V.cell? ⟨cr, 0, none⟩ = some (.int .i64 r) := keep_cell hbV c0
  have a9v : V.cell? ⟨ab, 9, none⟩ = some (.int .i64 N) := keep_cell hbV a9
  have f0v : V.frozen? ⟨cr, 0, none⟩ = false := Lib.frozen_of_heap hrV 0
  have hrlv := lt_cell c0v
  have hAlv := lt_cell a9v
  have HV := hide hV
  have hS0 : (fun w' : World => w' = V) w.drew := hV.symm
  have HCM := hide hcm
  clear hd hd2 hN hcp hcnt
  clear nb hz hs hT hP hm hc hV hrV hkW hrW hg hbV hcm a9 c0 f0 hs2 hsl
  by_cases hroom : r - d < 0
  · have d1 : decide (r - d < 0) = true := by simp [hroom]
    rw [if_pos hroom]
    clear hroom HL
    go_enter Tryz.func156, Tryz.ntmps156
    go_wp2_with fail
    refine anyE_region (L := 7) (S := fun w' : World => w' = V) (by kernel_rfl) ?_
    refine anyE_take 0 (v := ?v1) rfl (by kernel_rfl) (by kernel_rfl) (by kernel_rfl) (by kernel_rfl) (fun _ _ _ h => h) (by rfl) ?hy1 hS0 ?rest1
    case hy1 =>
      intro wx hx
      subst hx
      go_simp
      try rfl
    case rest1 =>
    intro K hK
    go_simp
    refine hK.out _ ?_
    clear hK K
    refine anyE_take 1 (v := ?v2) rfl (by kernel_rfl) (by kernel_rfl) (by kernel_rfl) (by kernel_rfl) (fun _ _ _ h => h) (by rfl) ?hy2 hS0 ?rest2
    case hy2 =>
      intro wx hx
      subst hx
      go_simp
      try rfl
    case rest2 =>
    intro K hK
    go_simp
    refine hK.out _ ?_
    clear hK K
    refine anyE_take 2 (v := ?v3) rfl (by kernel_rfl) (by kernel_rfl) (by kernel_rfl) (by kernel_rfl) (fun _ _ _ h => h) (by rfl) ?hy3 hS0 ?rest3
    case hy3 =>
      intro wx hx
      subst hx
      go_simp
      try rfl
    case rest3 =>
    intro K hK
    go_simp
    refine hK.out _ ?_
    clear hK K
    refine anyE_take 3 (v := ?v4) rfl (by kernel_rfl) (by kernel_rfl) (by kernel_rfl) (by kernel_rfl) (fun _ _ _ h => h) (by rfl) ?hy4 hS0 ?rest4
    case hy4 =>
      intro wx hx
      subst hx
      go_simp
      try rfl
    case rest4 =>
    intro K hK
    go_simp
    refine hK.out _ ?_
    clear hK K
    refine anyE_take 4 (v := ?v5) rfl (by kernel_rfl) (by kernel_rfl) (by kernel_rfl) (by kernel_rfl) (fun _ _ _ h => h) (by rfl) ?hy5 hS0 ?rest5
    case hy5 =>
      intro wx hx
      subst hx
      go_simp
      try rfl
    case rest5 =>
    intro K hK
    go_simp
    refine hK.out _ ?_
    clear hK K
    refine anyE_take 5 (v := ?v6) rfl (by kernel_rfl) (by kernel_rfl) (by kernel_rfl) (by kernel_rfl) (fun _ _ _ h => h) (by rfl) ?hy6 hS0 ?rest6
    case hy6 =>
      intro wx hx
      subst hx
      go_simp
      try rfl
    case rest6 =>
    intro K hK
    go_simp
    refine hK.out _ ?_
    clear hK K
    refine anyE_take 6 (v := ?v7) rfl (by kernel_rfl) (by kernel_rfl) (by kernel_rfl) (by kernel_rfl) (fun _ _ _ h => h) (by rfl) ?hy7 hS0 ?rest7
    case hy7 =>
      intro wx hx
      subst hx
      go_simp
      try rfl
    case rest7 =>
    intro K hK
    go_simp
    refine hK.out _ ?_
    clear hK K
    refine anyE_one 7 (by kernel_rfl) rfl (fun K hK => ?_)
    rw [← HV.out]
    go_simp
    refine hK.out _ _ (fun h => absurd rfl h) ?_
    clear hK K
    refine anyE_done (by kernel_rfl) ?_ _
    rw [← hW]
    clear hW hS0 c0v a9v f0v hrlv hAlv
    go_wp2_with fail
    go_ret
    exact ⟨gb, clock, L, Z, H, rfl, HSW.out, fun x hx => hx, HKW.out, HRW.out, rfl⟩
  · have d1 : decide (r - d < 0) = false := by simp; omega
    rw [if_neg hroom]
    clear hroom
    generalize (chgS (knowL 0 u) A 0 ()).1 = rr at *
    go_enter Tryz.func156, Tryz.ntmps156
    go_wp2_with fail
    refine anyE_region (L := 7) (S := fun w' : World => w' = V) (by kernel_rfl) ?_
    refine anyE_take 0 (v := ?v8) rfl (by kernel_rfl) (by kernel_rfl) (by kernel_rfl) (by kernel_rfl) (fun _ _ _ h => h) (by rfl) ?hy8 hS0 ?rest8
    case hy8 =>
      intro wx hx
      subst hx
      go_simp
      try rfl
    case rest8 =>
    intro K hK
    go_simp
    refine hK.out _ ?_
    clear hK K
    refine anyE_take 1 (v := ?v9) rfl (by kernel_rfl) (by kernel_rfl) (by kernel_rfl) (by kernel_rfl) (fun _ _ _ h => h) (by rfl) ?hy9 hS0 ?rest9
    case hy9 =>
      intro wx hx
      subst hx
      go_simp
      try rfl
    case rest9 =>
    intro K hK
    go_simp
    refine hK.out _ ?_
    clear hK K
    refine anyE_take 2 (v := ?v10) rfl (by kernel_rfl) (by kernel_rfl) (by kernel_rfl) (by kernel_rfl) (fun _ _ _ h => h) (by rfl) ?hy10 hS0 ?rest10
    case hy10 =>
      intro wx hx
      subst hx
      go_simp
      try rfl
    case rest10 =>
    intro K hK
    go_simp
    refine hK.out _ ?_
    clear hK K
    refine anyE_take 3 (v := ?v11) rfl (by kernel_rfl) (by kernel_rfl) (by kernel_rfl) (by kernel_rfl) (fun _ _ _ h => h) (by rfl) ?hy11 hS0 ?rest11
    case hy11 =>
      intro wx hx
      subst hx
      go_simp
      try rfl
    case rest11 =>
    intro K hK
    go_simp
    refine hK.out _ ?_
    clear hK K
    refine anyE_take 4 (v := ?v12) rfl (by kernel_rfl) (by kernel_rfl) (by kernel_rfl) (by kernel_rfl) (fun _ _ _ h => h) (by rfl) ?hy12 hS0 ?rest12
    case hy12 =>
      intro wx hx
      subst hx
      go_simp
      try rfl
    case rest12 =>
    intro K hK
    go_simp
    refine hK.out _ ?_
    clear hK K
    refine anyE_take 5 (v := ?v13) rfl (by kernel_rfl) (by kernel_rfl) (by kernel_rfl) (by kernel_rfl) (fun _ _ _ h => h) (by rfl) ?hy13 hS0 ?rest13
    case hy13 =>
      intro wx hx
      subst hx
      go_simp
      try rfl
    case rest13 =>
    intro K hK
    go_simp
    refine hK.out _ ?_
    clear hK K
    refine anyE_take 6 (v := ?v14) rfl (by kernel_rfl) (by kernel_rfl) (by kernel_rfl) (by kernel_rfl) (fun _ _ _ h => h) (by rfl) ?hy14 hS0 ?rest14
    case hy14 =>
      intro wx hx
      subst hx
      go_simp
      try rfl
    case rest14 =>
    intro K hK
    go_simp
    refine hK.out _ ?_
    clear hK K
    refine anyE_one 7 (by kernel_rfl) rfl (fun K hK => ?_)
    rw [← HV.out]
    go_simp
    refine hK.out _ _ (fun h => absurd rfl h) ?_
    clear hK K
    refine anyE_done (by kernel_rfl) ?_ _
    rw [← hW]
    clear hW hS0 c0v a9v f0v hrlv hAlv
    go_wp2_with fail
    refine HL.out.mono ?_
    rintro e w1 ⟨b', clock', L', Z', H', rfl, g1, g2, g3, g4⟩
    have H1 := hide g1
    have H2 := hide g2
    have H3 := hide g3
    have H4 := hide (HKW.out.trans (KeptX.grown g4 (fun x hx => .inl (Option.some.inj hx).symm)))
    have H5 : Hid (RoomAt w1 cr (r - d)) := by show _ = _; rw [g4.block cr hr1 (fun e => HCM.out (Option.some.inj e))]; exact HRW.out
    clear g1 g2 g3 g4 c1 s1 k1
    go_wp2_with fail
    go_ret
    exact ⟨b', clock', L', Z', H', rfl, H1.out, H2.out, H4.out, H5.out, H3.out⟩
/-- What lifter answers: a function with its room. -/
theorem lifter_any (Sb ab n : Nat) (w : World) (ha : w.cell? ⟨ab, 9, none⟩ = some (.int .i64 (n : Int))) (hn : n ≤ 20000) :
    Calls Tryz.prog 114 #[.pointer (some ⟨Sb, 0, none⟩), .pointer (some ⟨ab, 0, none⟩)] w fun e w' => e = .returned (.func (.func 156) #[] #[.pointer (some ⟨w.heap.size + 1, 0, none⟩), .pointer (some ⟨w.heap.size, 0, none⟩)]) ∧ RoomAt w' (w.heap.size + 1) (20000 - (n : Int)) ∧ w'.cell? ⟨w.heap.size, 0, none⟩ = some (.pointer (some ⟨Sb, 0, none⟩)) ∧ Below w.heap.size w w' := by
  have hmf : ∀ (fn : Fn) (first cap : Array Value) (w : World), (Instr.makeFunc fn first cap).run Tryz.prog w = .ok (.func fn first cap) w := fun _ _ _ _ => rfl
  have hw1 : IntKind.i64.wrap (20000 - (n : Int)) = 20000 - (n : Int) := by rw [IntKind.wrap_i64]; omega
  have hl := lt_cell ha
  obtain ⟨W, hW⟩ : ∃ W, W = (w.alloc (.cells #[.pointer (some ⟨Sb, 0, none⟩)] 82)).alloc (.cells #[.int .i64 (20000 - (n : Int))] 3) := ⟨_, rfl⟩
  have hbW : Below w.heap.size w W := by rw [hW]; exact bel_alloc (bel_alloc (Below.refl _ _) _) _
  have HR : Hid (RoomAt W (w.heap.size + 1) (20000 - (n : Int))) := by show _ = _; rw [hW]; exact heap_alloc_at _ _ (by simp)
  have HS : Hid (W.cell? ⟨w.heap.size, 0, none⟩ = some (.pointer (some ⟨Sb, 0, none⟩))) := by show _ = _; rw [hW]; simp [go_sem]
  have HB := hide hbW
  clear hbW
  go_enter Tryz.func114, Tryz.ntmps114
  go_upto_region 2 with fail
  rw [← hW]
  clear hW
  go_wp2_with fail
  go_ret
  exact ⟨rfl, HR.out, HS.out, HB.out⟩
end Go.Proofs.YtjkkojefpecbfaaGreat
