/- What lifter and the function that it gives answer. -/
import Derived.Test.YtjkkojefpecbfaaGreatTeF
import Derived.Test.YtjkkojefpecbfaaGreatTeC
import Derived.Test.YtjkkojefpecbfaaGreatSpH
namespace Go.Proofs.YtjkkojefpecbfaaGreat
open Go.ChangeShapes Go.WideShapes Go.ChangeAt Go.RowKit

/-- The room that is left, in its variable. -/
def RoomAt (w : World) (cr : Nat) (r : Int) : Prop := w.heap[cr]? = some (.cells #[.int .i64 r] 3 (0, 0))
/-- What the function of lifter answers. -/
def LftOut (base Sb mb gb cr : Nat) (L : List (Nk × Nat × Nat)) (A : Tt) (u r : Int) (w : World) (e : Ending) (w' : World) : Prop :=
  ∃ (b' clock' : Nat) (L' : List (Nk × Nat × Nat)) (Z' : Nat → Zs) (H' : Nat → Bool), e = .returned (.pointer (some ⟨b', 0, none⟩)) ∧ St base w' Sb mb gb clock' L' Z' H' ∧ (∀ x ∈ L, x ∈ L') ∧ KeptX (fun k => k = mb ∨ k = cr) w w' ∧ RoomAt w' cr (r - ((A.cnt - 1 : Nat) : Int)) ∧ Res gb L' (if r - ((A.cnt - 1 : Nat) : Int) < 0 then none else (chgS (knowL 0 u) A 0 ()).1) b'
set_option maxRecDepth 20000 in
set_option maxHeartbeats 8000000 in
theorem lifter1_any (base Sb mb gb clock cr cs : Nat) (L : List (Nk × Nat × Nat)) (Z : Nat → Zs) (H : Nat → Bool) (A : Tt) (ab : Nat) (u r : Int) (w : World) (hs : St base w Sb mb gb clock L Z H) (hbase : base ≤ w.heap.size) (hT : IsT L A ab) (hP : A.all nodeP) (hu : 0 ≤ u ∧ u ≤ 100000) (hr : -2000000000000 ≤ r ∧ r ≤ 20000) (hc : RoomAt w cr r) (hs2 : w.cell? ⟨cs, 0, none⟩ = some (.pointer (some ⟨Sb, 0, none⟩))) (hcr : base ≤ cr) (hne : cs ≠ cr) :
    Calls Tryz.prog 156 #[.pointer (some ⟨ab, 0, none⟩), .int .i64 u, .pointer (some ⟨cr, 0, none⟩), .pointer (some ⟨cs, 0, none⟩)] w (LftOut base Sb mb gb cr L A u r w) := by
  have hz := ist_z hs A.cnt A ab (Nat.le_refl _) hT
  obtain ⟨ps, c, hpl, hm, _⟩ := ist_open hT
  obtain ⟨lv, ls, nb, _⟩ := (hs.ents _ hm).node
  have nb : NbAt w ab (tmL (keyP A.hd ps) lv (Z ab) (H ab)) := nb
  rw [hz] at nb
  have hcnt := (ist_lt hs hT).1
  have hcp := A.cnt_pos
  obtain ⟨N, hN⟩ : ∃ N : Int, N = (A.cnt : Int) := ⟨_, rfl⟩
  have a9 : w.cell? ⟨ab, 9, none⟩ = some (.int .i64 N) := by rw [hN, nb.cell 9 (by omega), ← A.z_sz]; rfl
  have c0 : w.cell? ⟨cr, 0, none⟩ = some (.int .i64 r) := by rw [Lib.cell_of_heap hc]; rfl
  have f0 : w.frozen? ⟨cr, 0, none⟩ = false := Lib.frozen_of_heap hc 0
  have hAl := lt_cell a9
  have hrl := lt_cell c0
  have hsl := lt_cell hs2
  obtain ⟨d, hd⟩ : ∃ d : Int, d = ((A.cnt - 1 : Nat) : Int) := ⟨_, rfl⟩
  have hd2 : N - 1 = d := by omega
  have hd0 : 0 ≤ d ∧ d ≤ 20000 := by omega
  unfold LftOut
  rw [← hd]
  have hw1 : IntKind.i64.wrap (N - 1) = d := by rw [IntKind.wrap_i64]; omega
  have hw2 : IntKind.i64.wrap (r - d) = r - d := by rw [IntKind.wrap_i64]; omega
  have hw1' : wrap64 (N - 1) = d := by unfold wrap64; omega
  have hw2' : wrap64 (r - d) = r - d := by unfold wrap64; omega
  obtain ⟨V, hV⟩ : ∃ V, V = w.drew := ⟨_, rfl⟩
  have hbV : Below w.heap.size w V := by rw [hV]; exact (Below.refl _ _).drew
  obtain ⟨W, hW⟩ : ∃ W, W = V.setCell ⟨cr, 0, none⟩ (.int .i64 (r - d)) := ⟨_, rfl⟩
  have hrV : RoomAt V cr r := by rw [hV]; exact hc
  have hrW : RoomAt W cr (r - d) := by rw [hW]; exact set_one hrV _
  have hg : V.grownBy W (some cr) := by rw [hW]; exact grown_set V ⟨cr, 0, none⟩ _
  have hcm : cr ≠ mb := fun e => by
    have h1 := hs.mp
    rw [← e, hc] at h1
    cases h1
  have HSW := hide ((hs.keep hbV hbase).other hrV (by decide) (by decide) hg hcr (Nat.le_trans hbase hbV.size))
  have hkW : KeptX (fun k => k = mb ∨ k = cr) w W := (KeptX.of hbV).trans (KeptX.grown hg (fun x hx => .inr (Option.some.inj hx).symm))
  have s1 : W.cell? ⟨cs, 0, none⟩ = some (.pointer (some ⟨Sb, 0, none⟩)) := heap_cell (hg.block cs (by have := hbV.size; omega) (fun e => hne (Option.some.inj e))) (keep_cell hbV hs2)
  have c1 : W.cell? ⟨cr, 0, none⟩ = some (.int .i64 (r - d)) := by rw [Lib.cell_of_heap hrW]; rfl
  have hb1 : base ≤ W.heap.size := Nat.le_trans hbase hkW.size
  have k1 := HSW.out.cell.2
  have hk1 := lt_cell k1
  have hr1 := lt_cell c1
  have hs1 := lt_cell s1
  have HL := hide (lift_any base Sb mb gb clock L Z H A ab 0 u W HSW.out hb1 hT hP (by omega) hu)
  have HKW := hide hkW
  have HRW := hide hrW
  have c0v : V.cell? ⟨cr, 0, none⟩ = some (.int .i64 r) := keep_cell hbV c0
  have a9v : V.cell? ⟨ab, 9, none⟩ = some (.int .i64 N) := keep_cell hbV a9
  have f0v : V.frozen? ⟨cr, 0, none⟩ = false := Lib.frozen_of_heap hrV 0
  have hrlv := lt_cell c0v
  have hAlv := lt_cell a9v
  have HV := hide hV
  have hS0 : (fun w' : World => w' = V) w.drew := hV.symm
  have HCM := hide hcm
  clear hd hd2 hN hcp hcnt
  clear nb hz hs hT hP hm hc hV hrV hkW hrW hg hbV hcm a9 c0 f0 hs2 hsl
  by_cases hroom : r - d < 0
  · have d1 : decide (r - d < 0) = true := by simp [hroom]
    rw [if_pos hroom]
    clear hroom HL
    go_enter Tryz.func156, Tryz.ntmps156
    go_wp2_with fail
    refine anyE_region (L := 7) (S := fun w' : World => w' = V) (by kernel_rfl) ?_
    refine anyE_take 0 (v := ?v1) rfl (by kernel_rfl) (by kernel_rfl) (by kernel_rfl) (by kernel_rfl) (fun _ _ _ h => h) (by rfl) ?hy1 hS0 ?rest1
    case hy1 =>
      intro wx hx
      subst hx
      go_simp
      try rfl
    case rest1 =>
    intro K hK
    go_simp
    refine hK.out _ ?_
    clear hK K
    refine anyE_take 1 (v := ?v2) rfl (by kernel_rfl) (by kernel_rfl) (by kernel_rfl) (by kernel_rfl) (fun _ _ _ h => h) (by rfl) ?hy2 hS0 ?rest2
    case hy2 =>
      intro wx hx
      subst hx
      go_simp
      try rfl
    case rest2 =>
    intro K hK
    go_simp
    refine hK.out _ ?_
    clear hK K
    refine anyE_take 2 (v := ?v3) rfl (by kernel_rfl) (by kernel_rfl) (by kernel_rfl) (by kernel_rfl) (fun _ _ _ h => h) (by rfl) ?hy3 hS0 ?rest3
    case hy3 =>
      intro wx hx
      subst hx
      go_simp
      try rfl
    case rest3 =>
    intro K hK
    go_simp
    refine hK.out _ ?_
    clear hK K
    refine anyE_take 3 (v := ?v4) rfl (by kernel_rfl) (by kernel_rfl) (by kernel_rfl) (by kernel_rfl) (fun _ _ _ h => h) (by rfl) ?hy4 hS0 ?rest4
    case hy4 =>
      intro wx hx
      subst hx
      go_simp
      try rfl
    case rest4 =>
    intro K hK
    go_simp
    refine hK.out _ ?_
    clear hK K
    refine anyE_take 4 (v := ?v5) rfl (by kernel_rfl) (by kernel_rfl) (by kernel_rfl) (by kernel_rfl) (fun _ _ _ h => h) (by rfl) ?hy5 hS0 ?rest5
    case hy5 =>
      intro wx hx
      subst hx
      go_simp
      try rfl
    case rest5 =>
    intro K hK
    go_simp
    refine hK.out _ ?_
    clear hK K
    refine anyE_take 5 (v := ?v6) rfl (by kernel_rfl) (by kernel_rfl) (by kernel_rfl) (by kernel_rfl) (fun _ _ _ h => h) (by rfl) ?hy6 hS0 ?rest6
    case hy6 =>
      intro wx hx
      subst hx
      go_simp
      try rfl
    case rest6 =>
    intro K hK
    go_simp
    refine hK.out _ ?_
    clear hK K
    refine anyE_take 6 (v := ?v7) rfl (by kernel_rfl) (by kernel_rfl) (by kernel_rfl) (by kernel_rfl) (fun _ _ _ h => h) (by rfl) ?hy7 hS0 ?rest7
    case hy7 =>
      intro wx hx
      subst hx
      go_simp
      try rfl
    case rest7 =>
    intro K hK
    go_simp
    refine hK.out _ ?_
    clear hK K
    refine anyE_one 7 (by kernel_rfl) rfl (fun K hK => ?_)
    rw [← HV.out]
    go_simp
    refine hK.out _ _ (fun h => absurd rfl h) ?_
    clear hK K
    refine anyE_done (by kernel_rfl) ?_ _
    rw [← hW]
    clear hW hS0 c0v a9v f0v hrlv hAlv
    go_wp2_with fail
    go_ret
    exact ⟨gb, clock, L, Z, H, rfl, HSW.out, fun x hx => hx, HKW.out, HRW.out, rfl⟩
  · have d1 : decide (r - d < 0) = false := by simp; omega
    rw [if_neg hroom]
    clear hroom
    generalize (chgS (knowL 0 u) A 0 ()).1 = rr at *
    go_enter Tryz.func156, Tryz.ntmps156
    go_wp2_with fail
    refine anyE_region (L := 7) (S := fun w' : World => w' = V) (by kernel_rfl) ?_
    refine anyE_take 0 (v := ?v8) rfl (by kernel_rfl) (by kernel_rfl) (by kernel_rfl) (by kernel_rfl) (fun _ _ _ h => h) (by rfl) ?hy8 hS0 ?rest8
    case hy8 =>
      intro wx hx
      subst hx
      go_simp
      try rfl
    case rest8 =>
    intro K hK
    go_simp
    refine hK.out _ ?_
    clear hK K
    refine anyE_take 1 (v := ?v9) rfl (by kernel_rfl) (by kernel_rfl) (by kernel_rfl) (by kernel_rfl) (fun _ _ _ h => h) (by rfl) ?hy9 hS0 ?rest9
    case hy9 =>
      intro wx hx
      subst hx
      go_simp
      try rfl
    case rest9 =>
    intro K hK
    go_simp
    refine hK.out _ ?_
    clear hK K
    refine anyE_take 2 (v := ?v10) rfl (by kernel_rfl) (by kernel_rfl) (by kernel_rfl) (by kernel_rfl) (fun _ _ _ h => h) (by rfl) ?hy10 hS0 ?rest10
    case hy10 =>
      intro wx hx
      subst hx
      go_simp
      try rfl
    case rest10 =>
    intro K hK
    go_simp
    refine hK.out _ ?_
    clear hK K
    refine anyE_take 3 (v := ?v11) rfl (by kernel_rfl) (by kernel_rfl) (by kernel_rfl) (by kernel_rfl) (fun _ _ _ h => h) (by rfl) ?hy11 hS0 ?rest11
    case hy11 =>
      intro wx hx
      subst hx
      go_simp
      try rfl
    case rest11 =>
    intro K hK
    go_simp
    refine hK.out _ ?_
    clear hK K
    refine anyE_take 4 (v := ?v12) rfl (by kernel_rfl) (by kernel_rfl) (by kernel_rfl) (by kernel_rfl) (fun _ _ _ h => h) (by rfl) ?hy12 hS0 ?rest12
    case hy12 =>
      intro wx hx
      subst hx
      go_simp
      try rfl
    case rest12 =>
    intro K hK
    go_simp
    refine hK.out _ ?_
    clear hK K
    refine anyE_take 5 (v := ?v13) rfl (by kernel_rfl) (by kernel_rfl) (by kernel_rfl) (by kernel_rfl) (fun _ _ _ h => h) (by rfl) ?hy13 hS0 ?rest13
    case hy13 =>
      intro wx hx
      subst hx
      go_simp
      try rfl
    case rest13 =>
    intro K hK
    go_simp
    refine hK.out _ ?_
    clear hK K
    refine anyE_take 6 (v := ?v14) rfl (by kernel_rfl) (by kernel_rfl) (by kernel_rfl) (by kernel_rfl) (fun _ _ _ h => h) (by rfl) ?hy14 hS0 ?rest14
    case hy14 =>
      intro wx hx
      subst hx
      go_simp
      try rfl
    case rest14 =>
    intro K hK
    go_simp
    refine hK.out _ ?_
    clear hK K
    refine anyE_one 7 (by kernel_rfl) rfl (fun K hK => ?_)
    rw [← HV.out]
    go_simp
    refine hK.out _ _ (fun h => absurd rfl h) ?_
    clear hK K
    refine anyE_done (by kernel_rfl) ?_ _
    rw [← hW]
    clear hW hS0 c0v a9v f0v hrlv hAlv
    go_wp2_with fail
    refine HL.out.mono ?_
    rintro e w1 ⟨b', clock', L', Z', H', rfl, g1, g2, g3, g4⟩
    have H1 := hide g1
    have H2 := hide g2
    have H3 := hide g3
    have H4 := hide (HKW.out.trans (KeptX.grown g4 (fun x hx => .inl (Option.some.inj hx).symm)))
    have H5 : Hid (RoomAt w1 cr (r - d)) := by show _ = _; rw [g4.block cr hr1 (fun e => HCM.out (Option.some.inj e))]; exact HRW.out
    clear g1 g2 g3 g4 c1 s1 k1
    go_wp2_with fail
    go_ret
    exact ⟨b', clock', L', Z', H', rfl, H1.out, H2.out, H4.out, H5.out, H3.out⟩
/-- What lifter answers: a function with its room. -/
theorem lifter_any (Sb ab n : Nat) (w : World) (ha : w.cell? ⟨ab, 9, none⟩ = some (.int .i64 (n : Int))) (hn : n ≤ 20000) :
    Calls Tryz.prog 114 #[.pointer (some ⟨Sb, 0, none⟩), .pointer (some ⟨ab, 0, none⟩)] w fun e w' => e = .returned (.func (.func 156) #[] #[.pointer (some ⟨w.heap.size + 1, 0, none⟩), .pointer (some ⟨w.heap.size, 0, none⟩)]) ∧ RoomAt w' (w.heap.size + 1) (20000 - (n : Int)) ∧ w'.cell? ⟨w.heap.size, 0, none⟩ = some (.pointer (some ⟨Sb, 0, none⟩)) ∧ Below w.heap.size w w' := by
  have hmf : ∀ (fn : Fn) (first cap : Array Value) (w : World), (Instr.makeFunc fn first cap).run Tryz.prog w = .ok (.func fn first cap) w := fun _ _ _ _ => rfl
  have hw1 : IntKind.i64.wrap (20000 - (n : Int)) = 20000 - (n : Int) := by rw [IntKind.wrap_i64]; omega
  have hl := lt_cell ha
  obtain ⟨W, hW⟩ : ∃ W, W = (w.alloc (.cells #[.pointer (some ⟨Sb, 0, none⟩)] 82)).alloc (.cells #[.int .i64 (20000 - (n : Int))] 3) := ⟨_, rfl⟩
  have hbW : Below w.heap.size w W := by rw [hW]; exact bel_alloc (bel_alloc (Below.refl _ _) _) _
  have HR : Hid (RoomAt W (w.heap.size + 1) (20000 - (n : Int))) := by show _ = _; rw [hW]; exact heap_alloc_at _ _ (by simp)
  have HS : Hid (W.cell? ⟨w.heap.size, 0, none⟩ = some (.pointer (some ⟨Sb, 0, none⟩))) := by show _ = _; rw [hW]; simp [go_sem]
  have HB := hide hbW
  clear hbW
  go_enter Tryz.func114, Tryz.ntmps114
  go_upto_region 2 with fail
  rw [← hW]
  clear hW
  go_wp2_with fail
  go_ret
  exact ⟨rfl, HR.out, HS.out, HB.out⟩
end Go.Proofs.YtjkkojefpecbfaaGreat

/- What put and the function that it gives to change answer. -/
namespace Go.Proofs.YtjkkojefpecbfaaGreat
open Go.ChangeShapes Go.WideShapes Go.ChangeAt Go.RowKit

theorem enter156 : ∀ args w, (callFunc 156 args).run Tryz.prog w = .ok (.enter 156 args) w := fun _ _ => by kernel_rfl
end Go.Proofs.YtjkkojefpecbfaaGreat

/- What put answers. -/
namespace Go.Proofs.YtjkkojefpecbfaaGreat
open Go.ChangeShapes Go.WideShapes Go.ChangeAt Go.RowKit

theorem grown_kept {mb cr : Nat} {w w' : World} (h : KeptX (fun k => k = mb ∨ k = cr) w w') (hc : w.heap.size ≤ cr) : w.grownBy w' (some mb) :=
  ⟨h.os, h.tape, h.output, h.size, fun k hk hr => h.block k hk (fun e => e.elim (fun e => hr (by rw [e])) (fun e => by omega))⟩
end Go.Proofs.YtjkkojefpecbfaaGreat

/- What holds of every node stays so by lifting, putting and filling. No program is walked here. -/
namespace Go.Proofs.YtjkkojefpecbfaaGreat

def VarOk (P : Hd → Nat → Prop) : Prop := ∀ n : Int, P ⟨1, n, 0, ⟨#[]⟩, []⟩ 0
theorem lift_all {P : Hd → Nat → Prop} (hv : VarOk P) (by' : Int) : ∀ (T : Tt) (f : Int), T.all P → (liftR by' T f).all P
  | .t0 h, f, hp => by
    unfold liftR
    split
    · exact hp
    · split
      · exact hv _
      · exact hp
  | .t1 h a, f, hp => by
    unfold liftR
    split
    · exact hp
    · exact ⟨hp.1, lift_all hv by' a _ hp.2⟩
  | .t2 h a b, f, hp => by
    unfold liftR
    split
    · exact hp
    · exact ⟨hp.1, lift_all hv by' a _ hp.2.1, lift_all hv by' b _ hp.2.2⟩
  | .t3 h a b c, f, hp => by
    unfold liftR
    split
    · exact hp
    · exact ⟨hp.1, lift_all hv by' a _ hp.2.1, lift_all hv by' b _ hp.2.2.1, lift_all hv by' c _ hp.2.2.2⟩
theorem fill_all {P : Hd → Nat → Prop} (hv : VarOk P) (A : Tt) (hole : Int) (hA : A.all P) : ∀ (T : Tt) (u : Int), T.all P → (fillR A hole T u).all P
  | .t0 h, u, hp => by
    unfold fillR
    split
    · exact hp
    · split
      · exact lift_all hv u A 0 hA
      · exact hp
  | .t1 h a, u, hp => by
    unfold fillR
    split
    · exact hp
    · exact ⟨hp.1, fill_all hv A hole hA a _ hp.2⟩
  | .t2 h a b, u, hp => by
    unfold fillR
    split
    · exact hp
    · exact ⟨hp.1, fill_all hv A hole hA a _ hp.2.1, fill_all hv A hole hA b _ hp.2.2⟩
  | .t3 h a b c, u, hp => by
    unfold fillR
    split
    · exact hp
    · exact ⟨hp.1, fill_all hv A hole hA a _ hp.2.1, fill_all hv A hole hA b _ hp.2.2.1, fill_all hv A hole hA c _ hp.2.2.2⟩
end Go.Proofs.YtjkkojefpecbfaaGreat

/- What the program's Put answers. -/
namespace Go.Proofs.YtjkkojefpecbfaaGreat
open Go.ChangeShapes Go.WideShapes Go.ChangeAt Go.RowKit

theorem var_lev' : VarOk levP := fun _ => ⟨fun l hl => by simp at hl, by simp⟩
end Go.Proofs.YtjkkojefpecbfaaGreat

/- What the specification's Put answers. -/
namespace Go.Proofs.YtjkkojefpecbfaaGreat
open Go.ChangeShapes Go.WideShapes Go.ChangeAt Go.RowKit

theorem var_leaf' : VarOk leafP := fun _ h => by omega
end Go.Proofs.YtjkkojefpecbfaaGreat
