/- What lifter and the function that it gives answer. -/
import Derived.Test.YtjkkojefpecbfaaGreatFoE
import Derived.Test.YtjkkojefpecbfaaGreatTeC
import Derived.Test.YtjkkojefpecbfaaGreatPuP
namespace Go.Proofs.YtjkkojefpecbfaaGreat
open Go.ChangeShapes Go.WideShapes Go.ChangeAt Go.RowKit

/-- The room that is left, in its variable. -/
def RoomAt (w : World) (cr : Nat) (r : Int) : Prop := w.heap[cr]? = some (.cells #[.int .i64 r] 3 (0, 0))
/-- What the function of lifter answers. -/
def LftOut (base Sb mb gb cr : Nat) (L : List (Nk × Nat × Nat)) (A : Tt) (u r : Int) (w : World) (e : Ending) (w' : World) : Prop :=
  ∃ (b' clock' : Nat) (L' : List (Nk × Nat × Nat)) (Z' : Nat → Zs) (H' : Nat → Bool), e = .returned (.pointer (some ⟨b', 0, none⟩)) ∧ St base w' Sb mb gb clock' L' Z' H' ∧ (∀ x ∈ L, x ∈ L') ∧ KeptX (fun k => k = mb ∨ k = cr) w w' ∧ RoomAt w' cr (r - ((A.cnt - 1 : Nat) : Int)) ∧ Res gb L' (if r - ((A.cnt - 1 : Nat) : Int) < 0 then none else (chgS (knowL 0 u) A 0 ()).1) b'
set_option maxRecDepth 20000 in
set_option maxHeartbeats 8000000 in
theorem lifter1_any (base Sb mb gb clock cr cs : Nat) (L : List (Nk × Nat × Nat)) (Z : Nat → Zs) (H : Nat → Bool) (A : Tt) (ab : Nat) (u r : Int) (w : World) (hs : St base w Sb mb gb clock L Z H) (hbase : base ≤ w.heap.size) (hT : IsT L A ab) (hP : A.all nodeP) (hu : 0 ≤ u ∧ u ≤ 100000) (hr : -2000000000000 ≤ r ∧ r ≤ 20000) (hc : RoomAt w cr r) (hs2 : w.cell? ⟨cs, 0, none⟩ = some (.pointer (some ⟨Sb, 0, none⟩))) (hcr : base ≤ cr) (hne : cs ≠ cr) :
    Calls Tryz.prog 156 #[.pointer (some ⟨ab, 0, none⟩), .int .i64 u, .pointer (some ⟨cr, 0, none⟩), .pointer (some ⟨cs, 0, none⟩)] w (LftOut base Sb mb gb cr L A u r w) := by
  have hz := ist_z hs A.cnt A ab (Nat.le_refl _) hT
  obtain ⟨ps, c, hpl, hm, _⟩ := ist_open hT
  obtain ⟨lv, ls, nb, _⟩ := (hs.ents _ hm).node
  have nb : NbAt w ab (tmL (keyP A.hd ps) lv (Z ab) (H ab)) := nb
  rw [hz] at nb
  have hcnt := (ist_lt hs hT).1
  have hcp := A.cnt_pos
  obtain ⟨N, hN⟩ : ∃ N : Int, N = (A.cnt : Int) := ⟨_, rfl⟩
  have a9 : w.cell? ⟨ab, 9, none⟩ = some (.int .i64 N) := by rw [hN, nb.cell 9 (by omega), ← A.z_sz]; rfl
  have c0 : w.cell? ⟨cr, 0, none⟩ = some (.int .i64 r) := by rw [Lib.cell_of_heap hc]; rfl
  have f0 : w.frozen? ⟨cr, 0, none⟩ = false := Lib.frozen_of_heap hc 0
  have hAl := lt_cell a9
  have hrl := lt_cell c0
  have hsl := lt_cell hs2
  obtain ⟨d, hd⟩ : ∃ d : Int, d = ((A.cnt - 1 : Nat) : Int) := ⟨_, rfl⟩
  have hd2 : N - 1 = d := by omega
  have hd0 : 0 ≤ d ∧ d ≤ 20000 := by omega
  unfold LftOut
  rw [← hd]
  have hw1 : IntKind.i64.wrap (N - 1) = d := by rw [IntKind.wrap_i64]; omega
  have hw2 : IntKind.i64.wrap (r - d) = r - d := by rw [IntKind.wrap_i64]; omega
  have hw1' : wrap64 (N - 1) = d := by unfold wrap64; omega
  have hw2' : wrap64 (r - d) = r - d := by unfold wrap64; omega
  obtain ⟨V, hV⟩ : ∃ V, V = w.drew := ⟨_, rfl⟩
  have hbV : Below w.heap.size w V := by rw [hV]; exact (Below.refl _ _).drew
  obtain ⟨W, hW⟩ : ∃ W, W = V.setCell ⟨cr, 0, none⟩ (.int .i64 (r - d)) := ⟨_, rfl⟩
  have hrV : RoomAt V cr r := by rw [hV]; exact hc
  have hrW : RoomAt W cr (r - d) := by rw [hW]; exact set_one hrV _
  have hg : V.grownBy W (some cr) := by rw [hW]; exact grown_set V ⟨cr, 0, none⟩ _
  have hcm : cr ≠ mb := fun e => by
    have h1 := hs.mp
    rw [← e, hc] at h1
    cases h1
  have HSW := hide ((hs.keep hbV hbase).other hrV (by decide) (by decide) hg hcr (Nat.le_trans hbase hbV.size))
  have hkW : KeptX (fun k => k = mb ∨ k = cr) w W := (KeptX.of hbV).trans (KeptX.grown hg (fun x hx => .inr (Option.some.inj hx).symm))
  have s1 : W.cell? ⟨cs, 0, none⟩ = some (.pointer (some ⟨Sb, 0, none⟩)) := heap_cell (hg.block cs (by have := hbV.size; omega) (fun e => hne (Option.some.inj e))) (keep_cell hbV hs2)
  have c1 : W.cell? ⟨cr, 0, none⟩ = some (.int .i64 (r - d)) := by rw [Lib.cell_of_heap hrW]; rfl
  have hb1 : base ≤ W.heap.size := Nat.le_trans hbase hkW.size
  have k1 := HSW.out.cell.2
  have hk1 := lt_cell k1
  have hr1 := lt_cell c1
  have hs1 := lt_cell s1
  have HL := hide (lift_any base Sb mb gb clock L Z H A ab 0 u W HSW.out hb1 hT hP (by omega) hu)
  have HKW := hide hkW
  have HRW := hide hrW
  have c0v : V.cell? ⟨cr, 0, none⟩ = some (.int .i64 r) := keep_cell hbV c0
  have a9v : V.cell? ⟨ab, 9, none⟩ = some (.int .i64 N) := keep_cell hbV a9
  have f0v : V.frozen? ⟨cr, 0, none⟩ = false := Lib.frozen_of_heap hrV 0
  have hrlv := lt_cell c0v
  have hAlv := lt_cell a9v
  have HV := hide hV
  have hS0 : (fun w' : World => w' = V) w.drew := hV.symm
  have HCM := hide hcm
  clear hd hd2 hN hcp hcnt
  clear nb hz hs hT hP hm hc hV hrV hkW hrW hg hbV hcm a9 c0 f0 hs2 hsl
  by_cases hroom : r - d < 0
  · have d1 : decide (r - d < 0) = true := by simp [hroom]
    rw [if_pos hroom]
    clear hroom HL
    go_enter Tryz.func156, Tryz.ntmps156
    go_wp2_with fail
    refine anyE_region (L := 7) (S := fun w' : World => w' = V) (by kernel_rfl) ?_
    refine anyE_take 0 (v := ?v1) rfl (by kernel_rfl) (by kernel_rfl) (by kernel_rfl) (by kernel_rfl) (fun _ _ _ h => h) (by rfl) ?hy1 hS0 ?rest1
    case hy1 =>
      intro wx hx
      subst hx
      go_simp
      try rfl
    case rest1 =>
    intro K hK
    go_simp
    refine hK.out _ ?_
    clear hK K
    refine anyE_take 1 (v := ?v2) rfl (by kernel_rfl) (by kernel_rfl) (by kernel_rfl) (by kernel_rfl) (fun _ _ _ h => h) (by rfl) ?hy2 hS0 ?rest2
    case hy2 =>
      intro wx hx
      subst hx
      go_simp
      try rfl
    case rest2 =>
    intro K hK
    go_simp
    refine hK.out _ ?_
    clear hK K
    refine anyE_take 2 (v := ?v3) rfl (by kernel_rfl) (by kernel_rfl) (by kernel_rfl) (by kernel_rfl) (fun _ _ _ h => h) (by rfl) ?hy3 hS0 ?rest3
    case hy3 =>
      intro wx hx
      subst hx
      go_simp
      try rfl
    case rest3 =>
    intro K hK
    go_simp
    refine hK.out _ ?_
    clear hK K
    refine anyE_take 3 (v := ?v4) rfl (by kernel_rfl) (by kernel_rfl) (by kernel_rfl) (by kernel_rfl) (fun _ _ _ h => h) (by rfl) ?hy4 hS0 ?rest4
    case hy4 =>
      intro wx hx
      subst hx
      go_simp
      try rfl
    case rest4 =>
    intro K hK
    go_simp
    refine hK.out _ ?_
    clear hK K
    refine anyE_take 4 (v := ?v5) rfl (by kernel_rfl) (by kernel_rfl) (by kernel_rfl) (by kernel_rfl) (fun _ _ _ h => h) (by rfl) ?hy5 hS0 ?rest5
    case hy5 =>
      intro wx hx
      subst hx
      go_simp
      try rfl
    case rest5 =>
    intro K hK
    go_simp
    refine hK.out _ ?_
    clear hK K
    refine anyE_take 5 (v := ?v6) rfl (by kernel_rfl) (by kernel_rfl) (by kernel_rfl) (by kernel_rfl) (fun _ _ _ h => h) (by rfl) ?hy6 hS0 ?rest6
    case hy6 =>
      intro wx hx
      subst hx
      go_simp
      try rfl
    case rest6 =>
    intro K hK
    go_simp
    refine hK.out _ ?_
    clear hK K
    refine anyE_take 6 (v := ?v7) rfl (by kernel_rfl) (by kernel_rfl) (by kernel_rfl) (by kernel_rfl) (fun _ _ _ h => h) (by rfl) ?hy7 hS0 ?rest7
    case hy7 =>
      intro wx hx
      subst hx
      go_simp
      try rfl
    case rest7 =>
    intro K hK
    go_simp
    refine hK.out _ ?_
    clear hK K
    refine anyE_one 7 (by kernel_rfl) rfl (fun K hK => ?_)
    rw [← HV.out]
    go_simp
    refine hK.out _ _ (fun h => absurd rfl h) ?_
    clear hK K
    refine anyE_done (by kernel_rfl) ?_ _
    rw [← hW]
    clear hW hS0 c0v a9v f0v hrlv hAlv
    go_wp2_with fail
    go_ret
    exact ⟨gb, clock, L, Z, H, rfl, HSW.out, fun x hx => hx, HKW.out, HRW.out, rfl⟩
  · have d1 : decide (r - d < 0) = false := by simp; omega
    rw [if_neg hroom]
    clear hroom
    generalize (chgS (knowL 0 u) A 0 ()).1 = rr at *
    go_enter Tryz.func156, Tryz.ntmps156
    go_wp2_with fail
    refine anyE_region (L := 7) (S := fun w' : World => w' = V) (by kernel_rfl) ?_
    refine anyE_take 0 (v := ?v8) rfl (by kernel_rfl) (by kernel_rfl) (by kernel_rfl) (by kernel_rfl) (fun _ _ _ h => h) (by rfl) ?hy8 hS0 ?rest8
    case hy8 =>
      intro wx hx
      subst hx
      go_simp
      try rfl
    case rest8 =>
    intro K hK
    go_simp
    refine hK.out _ ?_
    clear hK K
    refine anyE_take 1 (v := ?v9) rfl (by kernel_rfl) (by kernel_rfl) (by kernel_rfl) (by kernel_rfl) (fun _ _ _ h => h) (by rfl) ?hy9 hS0 ?rest9
    case hy9 =>
      intro wx hx
      subst hx
      go_simp
      try rfl
    case rest9 =>
    intro K hK
    go_simp
    refine hK.out _ ?_
    clear hK K
    refine anyE_take 2 (v := ?v10) rfl (by kernel_rfl) (by kernel_rfl) (by kernel_rfl) (by kernel_rfl) (fun _ _ _ h => h) (by rfl) ?hy10 hS0 ?rest10
    case hy10 =>
      intro wx hx
      subst hx
      go_simp
      try rfl
    case rest10 =>
    intro K hK
    go_simp
    refine hK.out _ ?_
    clear hK K
    refine anyE_take 3 (v := ?v11) rfl (by kernel_rfl) (by kernel_rfl) (by kernel_rfl) (by kernel_rfl) (fun _ _ _ h => h) (by rfl) ?hy11 hS0 ?rest11
    case hy11 =>
      intro wx hx
      subst hx
      go_simp
      try rfl
    case rest11 =>
    intro K hK
    go_simp
    refine hK.out _ ?_
    clear hK K
    refine anyE_take 4 (v := ?v12) rfl (by kernel_rfl) (by kernel_rfl) (by kernel_rfl) (by kernel_rfl) (fun _ _ _ h => h) (by rfl) ?hy12 hS0 ?rest12
    case hy12 =>
      intro wx hx
      subst hx
      go_simp
      try rfl
    case rest12 =>
    intro K hK
    go_simp
    refine hK.out _ ?_
    clear hK K
    refine anyE_take 5 (v := ?v13) rfl (by kernel_rfl) (by kernel_rfl) (by kernel_rfl) (by kernel_rfl) (fun _ _ _ h => h) (by rfl) ?hy13 hS0 ?rest13
    case hy13 =>
      intro wx hx
      subst hx
      go_simp
      try rfl
    case rest13 =>
    intro K hK
    go_simp
    refine hK.out _ ?_
    clear hK K
    refine anyE_take 6 (v := ?v14) rfl (by kernel_rfl) (by kernel_rfl) (by kernel_rfl) (by kernel_rfl) (fun _ _ _ h => h) (by rfl) ?hy14 hS0 ?rest14
    case hy14 =>
      intro wx hx
      subst hx
      go_simp
      try rfl
    case rest14 =>
    intro K hK
    go_simp
    refine hK.out _ ?_
    clear hK K
    refine anyE_one 7 (by kernel_rfl) rfl (fun K hK => ?_)
    rw [← HV.out]
    go_simp
    refine hK.out _ _ (fun h => absurd rfl h) ?_
    clear hK K
    refine anyE_done (by kernel_rfl) ?_ _
    rw [← hW]
    clear hW hS0 c0v a9v f0v hrlv hAlv
    go_wp2_with fail
    refine HL.out.mono ?_
    rintro e w1 ⟨b', clock', L', Z', H', rfl, g1, g2, g3, g4⟩
    have H1 := hide g1
    have H2 := hide g2
    have H3 := hide g3
    have H4 := hide (HKW.out.trans (KeptX.grown g4 (fun x hx => .inl (Option.some.inj hx).symm)))
    have H5 : Hid (RoomAt w1 cr (r - d)) := by show _ = _; rw [g4.block cr hr1 (fun e => HCM.out (Option.some.inj e))]; exact HRW.out
    clear g1 g2 g3 g4 c1 s1 k1
    go_wp2_with fail
    go_ret
    exact ⟨b', clock', L', Z', H', rfl, H1.out, H2.out, H4.out, H5.out, H3.out⟩
/-- What lifter answers: a function with its room. -/
theorem lifter_any (Sb ab n : Nat) (w : World) (ha : w.cell? ⟨ab, 9, none⟩ = some (.int .i64 (n : Int))) (hn : n ≤ 20000) :
    Calls Tryz.prog 114 #[.pointer (some ⟨Sb, 0, none⟩), .pointer (some ⟨ab, 0, none⟩)] w fun e w' => e = .returned (.func (.func 156) #[] #[.pointer (some ⟨w.heap.size + 1, 0, none⟩), .pointer (some ⟨w.heap.size, 0, none⟩)]) ∧ RoomAt w' (w.heap.size + 1) (20000 - (n : Int)) ∧ w'.cell? ⟨w.heap.size, 0, none⟩ = some (.pointer (some ⟨Sb, 0, none⟩)) ∧ Below w.heap.size w w' := by
  have hmf : ∀ (fn : Fn) (first cap : Array Value) (w : World), (Instr.makeFunc fn first cap).run Tryz.prog w = .ok (.func fn first cap) w := fun _ _ _ _ => rfl
  have hw1 : IntKind.i64.wrap (20000 - (n : Int)) = 20000 - (n : Int) := by rw [IntKind.wrap_i64]; omega
  have hl := lt_cell ha
  obtain ⟨W, hW⟩ : ∃ W, W = (w.alloc (.cells #[.pointer (some ⟨Sb, 0, none⟩)] 82)).alloc (.cells #[.int .i64 (20000 - (n : Int))] 3) := ⟨_, rfl⟩
  have hbW : Below w.heap.size w W := by rw [hW]; exact bel_alloc (bel_alloc (Below.refl _ _) _) _
  have HR : Hid (RoomAt W (w.heap.size + 1) (20000 - (n : Int))) := by show _ = _; rw [hW]; exact heap_alloc_at _ _ (by simp)
  have HS : Hid (W.cell? ⟨w.heap.size, 0, none⟩ = some (.pointer (some ⟨Sb, 0, none⟩))) := by show _ = _; rw [hW]; simp [go_sem]
  have HB := hide hbW
  clear hbW
  go_enter Tryz.func114, Tryz.ntmps114
  go_upto_region 2 with fail
  rw [← hW]
  clear hW
  go_wp2_with fail
  go_ret
  exact ⟨rfl, HR.out, HS.out, HB.out⟩
end Go.Proofs.YtjkkojefpecbfaaGreat

/- What put and the function that it gives to change answer. -/
namespace Go.Proofs.YtjkkojefpecbfaaGreat
open Go.ChangeShapes Go.WideShapes Go.ChangeAt Go.RowKit

/-- What putting keeps at hand. -/
def PutInv (Sb ab cl ca cs cr c2 : Nat) (r : Int) (w : World) : Prop := w.cell? ⟨cl, 0, none⟩ = some (.func (.func 156) #[] #[.pointer (some ⟨cr, 0, none⟩), .pointer (some ⟨c2, 0, none⟩)]) ∧ w.cell? ⟨ca, 0, none⟩ = some (.pointer (some ⟨ab, 0, none⟩)) ∧ w.cell? ⟨cs, 0, none⟩ = some (.pointer (some ⟨Sb, 0, none⟩)) ∧ RoomAt w cr r ∧ w.cell? ⟨c2, 0, none⟩ = some (.pointer (some ⟨Sb, 0, none⟩))
theorem PutInv.same {Sb ab cl ca cs cr c2 : Nat} (r : Int) (w w' : World) (h : PutInv Sb ab cl ca cs cr c2 r w) (hh : ∀ b ∈ [cl, ca, cs, cr, c2], w'.heap[b]? = w.heap[b]?) : PutInv Sb ab cl ca cs cr c2 r w' :=
  ⟨heap_cell (hh cl (by simp)) h.1, heap_cell (hh ca (by simp)) h.2.1, heap_cell (hh cs (by simp)) h.2.2.1, (hh cr (by simp)).trans h.2.2.2.1, heap_cell (hh c2 (by simp)) h.2.2.2.2⟩
theorem PutInv.keep {Sb ab cl ca cs cr c2 : Nat} {r : Int} {w w' : World} (h : PutInv Sb ab cl ca cs cr c2 r w) (hb : Below w.heap.size w w') : PutInv Sb ab cl ca cs cr c2 r w' :=
  ⟨keep_cell hb h.1, keep_cell hb h.2.1, keep_cell hb h.2.2.1, (hb.block cr (Array.getElem?_eq_some_iff.1 h.2.2.2.1).1).trans h.2.2.2.1, keep_cell hb h.2.2.2.2⟩
theorem enter156 : ∀ args w, (callFunc 156 args).run Tryz.prog w = .ok (.enter 156 args) w := fun _ _ => by kernel_rfl
theorem enter115 : ∀ args w, (callFunc 115 args).run Tryz.prog w = .ok (.enter 115 args) w := fun _ _ => by kernel_rfl
set_option maxRecDepth 20000 in
set_option maxHeartbeats 8000000 in
theorem putF_ok (base Sb mb gb ab cl ca cs cr c2 : Nat) (A : Tt) (U : Int) (hA : A.all nodeP) (hU : U ≤ 100000) (hne : ∀ x ∈ [cl, ca, cs, cr, c2], x ≠ mb) (hcr : base ≤ cr) (hn2 : cl ≠ cr ∧ ca ≠ cr ∧ cs ≠ cr ∧ c2 ≠ cr) : KnowOk base Sb mb gb (fun k => k = mb ∨ k = cr) [cl, ca, cs, cr, c2] [(A, ab)] (RoomOk varP) (PutInv Sb ab cl ca cs cr c2) (knowP A) 115 (.pointer (some ⟨cl, 0, none⟩)) (.pointer (some ⟨ca, 0, none⟩)) (.pointer (some ⟨cs, 0, none⟩)) U := by
  intro T b u r w clock L Z H hs hbase hT hP hu0 hu1 haa hroom hI hbl hCs
  have hIA : IsT L A ab := haa (A, ab) (by simp)
  obtain ⟨hvp, hrc, hr0, hr1⟩ := hroom
  have hz := ist_z hs T.cnt T b (Nat.le_refl _) hT
  obtain ⟨ps, c, hpl, hm, _⟩ := ist_open hT
  obtain ⟨lv, ls, nb, _⟩ := (hs.ents _ hm).node
  have nb : NbAt w b (tmL (keyP T.hd ps) lv (Z b) (H b)) := nb
  rw [hz] at nb
  have hlo : 0 ≤ T.z.lo ∧ T.z.lo ≤ 20001 := by
    have := (hs.ents _ hm).ok.1
    have h : ZOk (Z b) := this
    rw [hz] at h
    exact ⟨h.2.1, h.2.2⟩
  have hbm := (ist_lt hs hT).2.2.1
  have hnum : T.hd.k = 1 → 0 ≤ T.hd.n ∧ T.hd.n ≤ 20000 := fun e => num_of (td := T.hd.td []) (hd_all T hP).2 e
  have a0 : w.cell? ⟨b, 0, none⟩ = some (.int .i64 T.hd.k) := by rw [nb.cell 0 (by omega)]; rfl
  have a1 : w.cell? ⟨b, 1, none⟩ = some (.int .i64 T.hd.n) := by rw [nb.cell 1 (by omega)]; rfl
  have a10 : w.cell? ⟨b, 10, none⟩ = some (.int .i64 T.z.lo) := by rw [nb.cell 10 (by omega)]; rfl
  have hAl := lt_cell a0
  obtain ⟨i0, i1, i2, i3, i4⟩ := hI
  have hl0 := lt_cell i0
  have hl1 := lt_cell i1
  have hl2 := lt_cell i2
  have hl4 := lt_cell i4
  have hcp := T.cnt_pos
  have HNE := hide hne
  have HTT := hide hT
  have HS := hide hs
  have HBS := hide hbase
  have HI : Hid (PutInv Sb ab cl ca cs cr c2 r w) := ⟨i0, i1, i2, i3, i4⟩
  have HNM := hide hnum
  have HLO := hide (lo_one hvp)
  have HN2 := hide hn2
  have HLF := hide (lifter1_any base Sb mb gb clock cr c2 L Z H A ab u r w hs hbase hIA hA (by omega) (by omega) i3 i4 hcr hn2.2.2.2)
  clear nb hz hne hT hs hbase hm hnum hbl hCs hP hvp haa hIA hA hn2 hrc
  by_cases h1 : T.z.lo ≤ u
  · have HE : Hid (knowP A T u r = (some (some T), r)) := by show _ = _; unfold knowP; rw [if_pos h1]
    rw [HE.out]
    have d1 : decide (T.z.lo ≤ u) = true := by simp [h1]
    clear h1
    go_enter Tryz.func115, Tryz.ntmps115
    go_wp2_with fail
    refine bodyPost_ret (v := .tuple #[.pointer (some ⟨b, 0, none⟩), .bool true]) (by simp [results, Tryz.results115, go_sem]) rfl ?_
    exact ⟨clock, L, Z, H, HS.out, fun x hx => hx, KeptX.refl _ _, HI.out, .inr ⟨some T, b, rfl, rfl, HTT.out⟩⟩
  have d1 : decide (T.z.lo ≤ u) = false := by simp; omega
  by_cases h2 : T.hd.k = 1
  case neg =>
    have HE : Hid (knowP A T u r = (none, r)) := by show _ = _; unfold knowP; rw [if_neg h1, if_neg h2]
    rw [HE.out]
    have q2 : (T.hd.k != 1) = true := by simp [h2]
    clear h1 h2
    go_enter Tryz.func115, Tryz.ntmps115
    go_wp2_with fail
    refine bodyPost_ret (v := .tuple #[.pointer none, .bool false]) (by simp [results, Tryz.results115, go_sem]) rfl ?_
    exact ⟨clock, L, Z, H, HS.out, fun x hx => hx, KeptX.refl _ _, HI.out, .inl ⟨rfl, none, rfl⟩⟩
  case pos =>
  have q2 : (T.hd.k != 1) = false := by simp [h2]
  obtain ⟨n0, n1⟩ := HNM.out h2
  have hlo2 := HLO.out h2
  by_cases h3 : T.hd.n = u
  · have HE : Hid (knowP A T u r = (some (if r - ((A.cnt - 1 : Nat) : Int) < 0 then none else (chgS (knowL 0 u) A 0 ()).1), r - ((A.cnt - 1 : Nat) : Int))) := by show _ = _; unfold knowP; rw [if_neg h1, if_pos h2, if_pos h3]
    rw [HE.out]
    have q3 : (T.hd.n == u) = true := by simp [h3]
    have h156 := enter156
    unfold LftOut at HLF
    generalize (if r - ((A.cnt - 1 : Nat) : Int) < 0 then none else (chgS (knowL 0 u) A 0 ()).1) = rr at *
    generalize r - ((A.cnt - 1 : Nat) : Int) = r2 at *
    clear h1 h2 h3 hlo2 HE
    go_enter Tryz.func115, Tryz.ntmps115
    go_wp2_with fail
    refine HLF.out.mono ?_
    rintro e w1 ⟨b', clock', L', Z', H', rfl, g1, g2, g3, g4, g5⟩
    have H1 := hide g1
    have H2 := hide g2
    have H3 := hide g3
    have H5 := hide g5
    have hq : ∀ x ∈ [cl, ca, cs, cr, c2], x ≠ cr → x < w.heap.size → w1.heap[x]? = w.heap[x]? := fun x hx hxr hxl => g3.block x hxl (fun h => h.elim (HNE.out x hx) hxr)
    have HI1 : Hid (PutInv Sb ab cl ca cs cr c2 r2 w1) := ⟨heap_cell (hq cl (by simp) HN2.out.1 hl0) i0, heap_cell (hq ca (by simp) HN2.out.2.1 hl1) i1, heap_cell (hq cs (by simp) HN2.out.2.2.1 hl2) i2, g4, heap_cell (hq c2 (by simp) HN2.out.2.2.2 hl4) i4⟩
    clear g1 g2 g3 g4 g5 hq
    go_wp2_with fail
    refine bodyPost_ret (v := .tuple #[.pointer (some ⟨b', 0, none⟩), .bool true]) (by simp [results, Tryz.results115, go_sem]) rfl ?_
    exact ⟨clock', L', Z', H', H1.out, H2.out, H3.out, HI1.out, .inr ⟨_, b', rfl, rfl, H5.out⟩⟩
  · have HE : Hid (knowP A T u r = (some (if 20000 < T.hd.n - 1 then none else some (varT (T.hd.n - 1))), r)) := by show _ = _; unfold knowP; rw [if_neg h1, if_pos h2, if_neg h3]
    rw [HE.out]
    obtain ⟨rr, hrr⟩ : ∃ rr : Option Tt, rr = if 20000 < T.hd.n - 1 then none else some (varT (T.hd.n - 1)) := ⟨_, rfl⟩
    rw [← hrr]
    have HRR := hide hrr
    clear hrr HE
    have q3 : (T.hd.n == u) = false := by simp [h3]
    have hw2 : IntKind.i64.wrap (T.hd.n - 1) = T.hd.n - 1 := by rw [IntKind.wrap_i64]; omega
    have hnn : 0 ≤ T.hd.n - 1 := by omega
    obtain ⟨V, hV⟩ : ∃ V, V = w.drew := ⟨_, rfl⟩
    have hbV : Below w.heap.size w V := by rw [hV]; exact (Below.refl _ _).drew
    have HSV := hide (HS.out.keep hbV HBS.out)
    have HIV := hide (HI.out.keep hbV)
    have HVR := hide (variable_any base Sb mb gb clock L Z H (T.hd.n - 1) V HSV.out (Nat.le_trans HBS.out hbV.size) hnn)
    rw [← HRR.out] at HVR
    have HG := hide (fun (wx : World) (h : wx.heap[b]? = w.heap[b]?) => heap_cell h a1)
    have HGS := hide (fun (wx : World) (h : wx.heap[cs]? = w.heap[cs]?) => heap_cell h i2)
    have HKV := hide (KeptX.of (C := fun k => k = mb ∨ k = cr) hbV)
    have hS0 : (fun w' : World => w'.heap[b]? = w.heap[b]? ∧ w'.heap[cs]? = w.heap[cs]?) w.drew := ⟨rfl, rfl⟩
    have hVl : b < V.heap.size ∧ cs < V.heap.size := by rw [hV]; exact ⟨hAl, hl2⟩
    have hVb : ∀ x : Nat, V.heap[x]? = w.heap[x]? := fun x => by rw [hV]; rfl
    have HV := hide hV
    clear hV hbV h1 h2 h3 hlo2 HLF
    go_enter Tryz.func115, Tryz.ntmps115
    go_wp2_with fail
    refine anyE_region (L := 9) (S := fun w' : World => w'.heap[b]? = w.heap[b]? ∧ w'.heap[cs]? = w.heap[cs]?) (by kernel_rfl) ?_
    refine anyE_take 0 (v := ?v1) rfl (by kernel_rfl) (by kernel_rfl) (by kernel_rfl) (by kernel_rfl) (fun _ _ _ h => h) (by rfl) ?hy1 hS0 ?rest1
    case hy1 =>
      intro wx hx
      have m1 := HG.out wx hx.1
      have ms := HGS.out wx hx.2
      go_simp
      try rfl
    case rest1 =>
    intro K hK
    go_simp
    refine hK.out _ ?_
    clear hK K
    refine anyE_take 1 (v := ?v2) rfl (by kernel_rfl) (by kernel_rfl) (by kernel_rfl) (by kernel_rfl) (fun _ _ _ h => h) (by rfl) ?hy2 hS0 ?rest2
    case hy2 =>
      intro wx hx
      have m1 := HG.out wx hx.1
      have ms := HGS.out wx hx.2
      go_simp
      try rfl
    case rest2 =>
    intro K hK
    go_simp
    refine hK.out _ ?_
    clear hK K
    refine anyE_take 2 (v := ?v3) rfl (by kernel_rfl) (by kernel_rfl) (by kernel_rfl) (by kernel_rfl) (fun _ _ _ h => h) (by rfl) ?hy3 hS0 ?rest3
    case hy3 =>
      intro wx hx
      have m1 := HG.out wx hx.1
      have ms := HGS.out wx hx.2
      go_simp
      try rfl
    case rest3 =>
    intro K hK
    go_simp
    refine hK.out _ ?_
    clear hK K
    refine anyE_take 3 (v := ?v4) rfl (by kernel_rfl) (by kernel_rfl) (by kernel_rfl) (by kernel_rfl) (fun _ _ _ h => h) (by rfl) ?hy4 hS0 ?rest4
    case hy4 =>
      intro wx hx
      have m1 := HG.out wx hx.1
      have ms := HGS.out wx hx.2
      go_simp
      try rfl
    case rest4 =>
    intro K hK
    go_simp
    refine hK.out _ ?_
    clear hK K
    refine anyE_take 4 (v := ?v5) rfl (by kernel_rfl) (by kernel_rfl) (by kernel_rfl) (by kernel_rfl) (fun _ _ _ h => h) (by rfl) ?hy5 hS0 ?rest5
    case hy5 =>
      intro wx hx
      have m1 := HG.out wx hx.1
      have ms := HGS.out wx hx.2
      go_simp
      try rfl
    case rest5 =>
    intro K hK
    go_simp
    refine hK.out _ ?_
    clear hK K
    refine anyE_take 5 (v := ?v6) rfl (by kernel_rfl) (by kernel_rfl) (by kernel_rfl) (by kernel_rfl) (fun _ _ _ h => h) (by rfl) ?hy6 hS0 ?rest6
    case hy6 =>
      intro wx hx
      have m1 := HG.out wx hx.1
      have ms := HGS.out wx hx.2
      go_simp
      try rfl
    case rest6 =>
    intro K hK
    go_simp
    refine hK.out _ ?_
    clear hK K
    refine anyE_take 6 (v := ?v7) rfl (by kernel_rfl) (by kernel_rfl) (by kernel_rfl) (by kernel_rfl) (fun _ _ _ h => h) (by rfl) ?hy7 hS0 ?rest7
    case hy7 =>
      intro wx hx
      have m1 := HG.out wx hx.1
      have ms := HGS.out wx hx.2
      go_simp
      try rfl
    case rest7 =>
    intro K hK
    go_simp
    refine hK.out _ ?_
    clear hK K
    refine anyE_one 7 (by kernel_rfl) rfl (fun K hK => ?_)
    rw [← HV.out]
    go_simp
    refine HVR.out.mono ?_
    rintro e w' ⟨b', clock', L', Z', H', rfl, g1, g2, g3, g4⟩
    have H1 := hide g1
    have H2 := hide g2
    have H3 := hide g3
    have hk1 : KeptX (fun k => k = mb) V w' := KeptX.grown g4 (fun x hx => (Option.some.inj hx).symm)
    have H4 := hide (HKV.out.trans (hk1.mono (D := fun k => k = mb ∨ k = cr) (fun k _ h => .inl h)))
    have hsz := HKV.out.size
    have HI4 : Hid (PutInv Sb ab cl ca cs cr c2 r w') := HIV.out.same _ _ _ (fun x hx => hk1.block x (by
      have hrl : cr < w.heap.size := (Array.getElem?_eq_some_iff.1 i3).1
      have hx2 := hx
      simp only [List.mem_cons, List.not_mem_nil, or_false] at hx2
      rcases hx2 with e | e | e | e | e <;> omega) (HNE.out x hx))
    have e1 : w'.heap[b]? = w.heap[b]? := (hk1.block b hVl.1 hbm).trans (hVb b)
    have e2 : w'.heap[cs]? = w.heap[cs]? := (hk1.block cs hVl.2 (HNE.out cs (by simp))).trans (hVb cs)
    clear g1 g2 g3 g4 hk1
    refine hK.out _ _ (fun _ => ⟨e1, e2⟩) ?_
    clear hK K
    refine anyE_one 8 (by kernel_rfl) rfl (fun K hK => ?_)
    go_simp
    refine hK.out _ _ (fun _ => ⟨e1, e2⟩) ?_
    clear hK K
    refine anyE_one 9 (by kernel_rfl) rfl (fun K hK => ?_)
    go_simp
    refine hK.out _ _ (fun h => absurd rfl h) ?_
    clear hK K
    refine anyE_done (by kernel_rfl) ?_ _
    go_wp2_with fail
    refine bodyPost_ret (v := .tuple #[.pointer (some ⟨b', 0, none⟩), .bool true]) (by simp [results, Tryz.results115, go_sem]) rfl ?_
    exact ⟨clock', L', Z', H', H1.out, H2.out, H4.out, HI4.out, .inr ⟨_, b', rfl, rfl, H3.out⟩⟩
end Go.Proofs.YtjkkojefpecbfaaGreat
