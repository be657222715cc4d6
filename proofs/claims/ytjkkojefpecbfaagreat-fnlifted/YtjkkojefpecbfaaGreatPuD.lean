/- What put and the function that it gives to change answer. -/
import Derived.Test.YtjkkojefpecbfaaGreatPuA
import Derived.Test.YtjkkojefpecbfaaGreatApI
import Derived.Test.YtjkkojefpecbfaaGreatSpF
namespace Go.Proofs.YtjkkojefpecbfaaGreat
open Go.ChangeShapes Go.WideShapes Go.ChangeAt Go.RowKit

/-- What putting keeps at hand. -/
def PutInv (Sb ab cl ca cs cr c2 : Nat) (r : Int) (w : World) : Prop := w.cell? ⟨cl, 0, none⟩ = some (.func (.func 156) #[] #[.pointer (some ⟨cr, 0, none⟩), .pointer (some ⟨c2, 0, none⟩)]) ∧ w.cell? ⟨ca, 0, none⟩ = some (.pointer (some ⟨ab, 0, none⟩)) ∧ w.cell? ⟨cs, 0, none⟩ = some (.pointer (some ⟨Sb, 0, none⟩)) ∧ RoomAt w cr r ∧ w.cell? ⟨c2, 0, none⟩ = some (.pointer (some ⟨Sb, 0, none⟩))
theorem PutInv.same {Sb ab cl ca cs cr c2 : Nat} (r : Int) (w w' : World) (h : PutInv Sb ab cl ca cs cr c2 r w) (hh : ∀ b ∈ [cl, ca, cs, cr, c2], w'.heap[b]? = w.heap[b]?) : PutInv Sb ab cl ca cs cr c2 r w' :=
  ⟨heap_cell (hh cl (by simp)) h.1, heap_cell (hh ca (by simp)) h.2.1, heap_cell (hh cs (by simp)) h.2.2.1, (hh cr (by simp)).trans h.2.2.2.1, heap_cell (hh c2 (by simp)) h.2.2.2.2⟩
theorem PutInv.keep {Sb ab cl ca cs cr c2 : Nat} {r : Int} {w w' : World} (h : PutInv Sb ab cl ca cs cr c2 r w) (hb : Below w.heap.size w w') : PutInv Sb ab cl ca cs cr c2 r w' :=
  ⟨keep_cell hb h.1, keep_cell hb h.2.1, keep_cell hb h.2.2.1, (hb.block cr (Array.getElem?_eq_some_iff.1 h.2.2.2.1).1).trans h.2.2.2.1, keep_cell hb h.2.2.2.2⟩
theorem enter156 : ∀ args w, (callFunc 156 args).run Tryz.prog w = .ok (.enter 156 args) w := fun _ _ => by kernel_rfl
theorem enter115 : ∀ args w, (callFunc 115 args).run Tryz.prog w = .ok (.enter 115 args) w := fun _ _ => by kernel_rfl
set_option maxRecDepth 20000 in
set_option maxHeartbeats 8000000 in
theorem putF_ok (base Sb mb gb ab cl ca cs cr c2 : Nat) (A : Tt) (U : Int) (hA : A.all nodeP) (hU : U ≤ 100000) (hne : ∀ x ∈ [cl, ca, cs, cr, c2], x ≠ mb) (hcr : base ≤ cr) (hn2 : cl ≠ cr ∧ ca ≠ cr ∧ cs ≠ cr ∧ c2 ≠ cr) : KnowOk base Sb mb gb (fun k => k = mb ∨ k = cr) [cl, ca, cs, cr, c2] [(A, ab)] (RoomOk varP) (PutInv Sb ab cl ca cs cr c2) (knowP A) 115 (.pointer (some ⟨cl, 0, none⟩)) (.pointer (some ⟨ca, 0, none⟩)) (.pointer (some ⟨cs, 0, none⟩)) U := by
  intro T b u r w clock L Z H hs hbase hT hP hu0 hu1 haa hroom hI hbl hCs
  have hIA : IsT L A ab := haa (A, ab) (by simp)
  obtain ⟨hvp, hrc, hr0, hr1⟩ := hroom
  have hz := ist_z hs T.cnt T b (Nat.le_refl _) hT
  obtain ⟨ps, c, hpl, hm, _⟩ := ist_open hT
  obtain ⟨lv, ls, nb, _⟩ := (hs.ents _ hm).node
  have nb : NbAt w b (tmL (keyP T.hd ps) lv (Z b) (H b)) := nb
  rw [hz] at nb
  have hlo : 0 ≤ T.z.lo ∧ T.z.lo ≤ 20001 := by
    have := (hs.ents _ hm).ok.1
    have h : ZOk (Z b) := this
    rw [hz] at h
    exact ⟨h.2.1, h.2.2⟩
  have hbm := (ist_lt hs hT).2.2.1
  have hnum : T.hd.k = 1 → 0 ≤ T.hd.n ∧ T.hd.n ≤ 20000 := fun e => num_of (td := T.hd.td []) (hd_all T hP).2 e
  have a0 : w.cell? ⟨b, 0, none⟩ = some (.int .i64 T.hd.k) := by rw [nb.cell 0 (by omega)]; rfl
  have a1 : w.cell? ⟨b, 1, none⟩ = some (.int .i64 T.hd.n) := by rw [nb.cell 1 (by omega)]; rfl
  have a10 : w.cell? ⟨b, 10, none⟩ = some (.int .i64 T.z.lo) := by rw [nb.cell 10 (by omega)]; rfl
  have hAl := lt_cell a0
  obtain ⟨i0, i1, i2, i3, i4⟩ := hI
  have hl0 := lt_cell i0
  have hl1 := lt_cell i1
  have hl2 := lt_cell i2
  have hl4 := lt_cell i4
  have hcp := T.cnt_pos
  have HNE := hide hne
  have HTT := hide hT
  have HS := hide hs
  have HBS := hide hbase
  have HI : Hid (PutInv Sb ab cl ca cs cr c2 r w) := ⟨i0, i1, i2, i3, i4⟩
  have HNM := hide hnum
  have HLO := hide (lo_one hvp)
  have HN2 := hide hn2
  have HLF := hide (lifter1_any base Sb mb gb clock cr c2 L Z H A ab u r w hs hbase hIA hA (by omega) (by omega) i3 i4 hcr hn2.2.2.2)
  clear nb hz hne hT hs hbase hm hnum hbl hCs hP hvp haa hIA hA hn2 hrc
  by_cases h1 : T.z.lo ≤ u
  · have HE : Hid (knowP A T u r = (some (some T), r)) := by show _ = _; unfold knowP; rw [if_pos h1]
    rw [HE.out]
    have d1 : decide (T.z.lo ≤ u) = true := by simp [h1]
    clear h1
    go_enter Tryz.func115, Tryz.ntmps115
    go_wp2_with fail
    refine bodyPost_ret (v := .tuple #[.pointer (some ⟨b, 0, none⟩), .bool true]) (by simp [results, Tryz.results115, go_sem]) rfl ?_
    exact ⟨clock, L, Z, H, HS.out, fun x hx => hx, KeptX.refl _ _, HI.out, .inr ⟨some T, b, rfl, rfl, HTT.out⟩⟩
  have d1 : decide (T.z.lo ≤ u) = false := by simp; omega
  by_cases h2 : T.hd.k = 1
  case neg =>
    have HE : Hid (knowP A T u r = (none, r)) := by show _ = _; unfold knowP; rw [if_neg h1, if_neg h2]
    rw [HE.out]
    have q2 : (T.hd.k != 1) = true := by simp [h2]
    clear h1 h2
    go_enter Tryz.func115, Tryz.ntmps115
    go_wp2_with fail
    refine bodyPost_ret (v := .tuple #[.pointer none, .bool false]) (by simp [results, Tryz.results115, go_sem]) rfl ?_
    exact ⟨clock, L, Z, H, HS.out, fun x hx => hx, KeptX.refl _ _, HI.out, .inl ⟨rfl, none, rfl⟩⟩
  case pos =>
  have q2 : (T.hd.k != 1) = false := by simp [h2]
  obtain ⟨n0, n1⟩ := HNM.out h2
  have hlo2 := HLO.out h2
  by_cases h3 : T.hd.n = u
  · have HE : Hid (knowP A T u r = (some (if r - ((A.cnt - 1 : Nat) : Int) < 0 then none else (chgS (knowL 0 u) A 0 ()).1), r - ((A.cnt - 1 : Nat) : Int))) := by show _ = _; unfold knowP; rw [if_neg h1, if_pos h2, if_pos h3]
    rw [HE.out]
    have q3 : (T.hd.n == u) = true := by simp [h3]
    have h156 := enter156
    unfold LftOut at HLF
    generalize (if r - ((A.cnt - 1 : Nat) : Int) < 0 then none else (chgS (knowL 0 u) A 0 ()).1) = rr at *
    generalize r - ((A.cnt - 1 : Nat) : Int) = r2 at *
    clear h1 h2 h3 hlo2 HE
    go_enter Tryz.func115, Tryz.ntmps115
    go_wp2_with fail
    refine HLF.out.mono ?_
    rintro e w1 ⟨b', clock', L', Z', H', rfl, g1, g2, g3, g4, g5⟩
    have H1 := hide g1
    have H2 := hide g2
    have H3 := hide g3
    have H5 := hide g5
    have hq : ∀ x ∈ [cl, ca, cs, cr, c2], x ≠ cr → x < w.heap.size → w1.heap[x]? = w.heap[x]? := fun x hx hxr hxl => g3.block x hxl (fun h => h.elim (HNE.out x hx) hxr)
    have HI1 : Hid (PutInv Sb ab cl ca cs cr c2 r2 w1) := ⟨heap_cell (hq cl (by simp) HN2.out.1 hl0) i0, heap_cell (hq ca (by simp) HN2.out.2.1 hl1) i1, heap_cell (hq cs (by simp) HN2.out.2.2.1 hl2) i2, g4, heap_cell (hq c2 (by simp) HN2.out.2.2.2 hl4) i4⟩
    clear g1 g2 g3 g4 g5 hq
    go_wp2_with fail
    refine bodyPost_ret (v := .tuple #[.pointer (some ⟨b', 0, none⟩), .bool true]) (by simp [results, Tryz.results115, go_sem]) rfl ?_
    exact ⟨clock', L', Z', H', H1.out, H2.out, H3.out, HI1.out, .inr ⟨_, b', rfl, rfl, H5.out⟩⟩
  · have HE : Hid (knowP A T u r = (some (if 20000 < T.hd.n - 1 then none else some (varT (T.hd.n - 1))), r)) := by show _ = _; unfold knowP; rw [if_neg h1, if_pos h2, if_neg h3]
    rw [HE.out]
    obtain ⟨rr, hrr⟩ : ∃ rr : Option Tt, rr = if 20000 < T.hd.n - 1 then none else some (varT (T.hd.n - 1)) := ⟨_, rfl⟩
    rw [← hrr]
    have HRR := hide hrr
    clear hrr HE
    have q3 : (T.hd.n == u) = false := by simp [h3]
    have hw2 : IntKind.i64.wrap (T.hd.n - 1) = T.hd.n - 1 := by rw [IntKind.wrap_i64]; omega
    have hnn : 0 ≤ T.hd.n - 1 := by omega
    obtain ⟨V, hV⟩ : ∃ V, V = w.drew := ⟨_, rfl⟩
    have hbV : Below w.heap.size w V := by rw [hV]; exact (Below.refl _ _).drew
    have HSV := hide (HS.out.keep hbV HBS.out)
    have HIV := hide (HI.out.keep hbV)
    have HVR := hide (variable_any base Sb mb gb clock L Z H (T.hd.n - 1) V HSV.out (Nat.le_trans HBS.out hbV.size) hnn)
    rw [← HRR.out] at HVR
    have HG := hide (fun (wx : World) (h : wx.heap[b]? = w.heap[b]?) => heap_cell h a1)
    have HGS := hide (fun (wx : World) (h : wx.heap[cs]? = w.heap[cs]?) => heap_cell h i2)
    have HKV := hide (KeptX.of (C := fun k => k = mb ∨ k = cr) hbV)
    have hS0 : (fun w' : World => w'.heap[b]? = w.heap[b]? ∧ w'.heap[cs]? = w.heap[cs]?) w.drew := ⟨rfl, rfl⟩
    have hVl : b < V.heap.size ∧ cs < V.heap.size := by rw [hV]; exact ⟨hAl, hl2⟩
    have hVb : ∀ x : Nat, V.heap[x]? = w.heap[x]? := fun x => by rw [hV]; rfl
    have HV := hide hV
    clear hV hbV h1 h2 h3 hlo2 HLF
    go_enter Tryz.func115, Tryz.ntmps115
    go_wp2_with fail
    refine anyE_region (L := 9) (S := fun w' : World => w'.heap[b]? = w.heap[b]? ∧ w'.heap[cs]? = w.heap[cs]?) (by kernel_rfl) ?_
    refine anyE_take 0 (v := ?v1) rfl (by kernel_rfl) (by kernel_rfl) (by kernel_rfl) (by kernel_rfl) (fun _ _ _ h => h) (by rfl) ?hy1 hS0 ?rest1
    case hy1 =>
      intro wx hx
      have m1 := HG.out wx hx.1
      have ms := HGS.out wx hx.2
      go_simp
      try rfl
    case rest1 =>
    intro K hK
    go_simp
    refine hK.out _ ?_
    clear hK K
    refine anyE_take 1 (v := ?v2) rfl (by kernel_rfl) (by kernel_rfl) (by kernel_rfl) (by kernel_rfl) (fun _ _ _ h => h) (by rfl) ?hy2 hS0 ?rest2
    case hy2 =>
      intro wx hx
      have m1 := HG.out wx hx.1
      have ms := HGS.out wx hx.2
      go_simp
      try rfl
    case rest2 =>
    intro K hK
    go_simp
    refine hK.out _ ?_
    clear hK K
    refine anyE_take 2 (v := ?v3) rfl (by kernel_rfl) (by kernel_rfl) (by kernel_rfl) (by kernel_rfl) (fun _ _ _ h => h) (by rfl) ?hy3 hS0 ?rest3
    case hy3 =>
      intro wx hx
      have m1 := HG.out wx hx.1
      have ms := HGS.out wx hx.2
      go_simp
      try rfl
    case rest3 =>
    intro K hK
    go_simp
    refine hK.out _ ?_
    clear hK K
    refine anyE_take 3 (v := ?v4) rfl (by kernel_rfl) (by kernel_rfl) (by kernel_rfl) (by kernel_rfl) (fun _ _ _ h => h) (by rfl) ?hy4 hS0 ?rest4
    case hy4 =>
      intro wx hx
      have m1 := HG.out wx hx.1
      have ms := HGS.out wx hx.2
      go_simp
      try rfl
    case rest4 =>
    intro K hK
    go_simp
    refine hK.out _ ?_
    clear hK K
    refine anyE_take 4 (v := ?v5) rfl (by kernel_rfl) (by kernel_rfl) (by kernel_rfl) (by kernel_rfl) (fun _ _ _ h => h) (by rfl) ?hy5 hS0 ?rest5
    case hy5 =>
      intro wx hx
      have m1 := HG.out wx hx.1
      have ms := HGS.out wx hx.2
      go_simp
      try rfl
    case rest5 =>
    intro K hK
    go_simp
    refine hK.out _ ?_
    clear hK K
    refine anyE_take 5 (v := ?v6) rfl (by kernel_rfl) (by kernel_rfl) (by kernel_rfl) (by kernel_rfl) (fun _ _ _ h => h) (by rfl) ?hy6 hS0 ?rest6
    case hy6 =>
      intro wx hx
      have m1 := HG.out wx hx.1
      have ms := HGS.out wx hx.2
      go_simp
      try rfl
    case rest6 =>
    intro K hK
    go_simp
    refine hK.out _ ?_
    clear hK K
    refine anyE_take 6 (v := ?v7) rfl (by kernel_rfl) (by kernel_rfl) (by kernel_rfl) (by kernel_rfl) (fun _ _ _ h => h) (by rfl) ?hy7 hS0 ?rest7
    case hy7 =>
      intro wx hx
      have m1 := HG.out wx hx.1
      have ms := HGS.out wx hx.2
      go_simp
      try rfl
    case rest7 =>
    intro K hK
    go_simp
    refine hK.out _ ?_
    clear hK K
    refine anyE_one 7 (by kernel_rfl) rfl (fun K hK => ?_)
    rw [← HV.out]
    go_simp
    refine HVR.out.mono ?_
    rintro e w' ⟨b', clock', L', Z', H', rfl, g1, g2, g3, g4⟩
    have H1 := hide g1
    have H2 := hide g2
    have H3 := hide g3
    have hk1 : KeptX (fun k => k = mb) V w' := KeptX.grown g4 (fun x hx => (Option.some.inj hx).symm)
    have H4 := hide (HKV.out.trans (hk1.mono (D := fun k => k = mb ∨ k = cr) (fun k _ h => .inl h)))
    have hsz := HKV.out.size
    have HI4 : Hid (PutInv Sb ab cl ca cs cr c2 r w') := HIV.out.same _ _ _ (fun x hx => hk1.block x (by
      have hrl : cr < w.heap.size := (Array.getElem?_eq_some_iff.1 i3).1
      have hx2 := hx
      simp only [List.mem_cons, List.not_mem_nil, or_false] at hx2
      rcases hx2 with e | e | e | e | e <;> omega) (HNE.out x hx))
    have e1 : w'.heap[b]? = w.heap[b]? := (hk1.block b hVl.1 hbm).trans (hVb b)
    have e2 : w'.heap[cs]? = w.heap[cs]? := (hk1.block cs hVl.2 (HNE.out cs (by simp))).trans (hVb cs)
    clear g1 g2 g3 g4 hk1
    refine hK.out _ _ (fun _ => ⟨e1, e2⟩) ?_
    clear hK K
    refine anyE_one 8 (by kernel_rfl) rfl (fun K hK => ?_)
    go_simp
    refine hK.out _ _ (fun _ => ⟨e1, e2⟩) ?_
    clear hK K
    refine anyE_one 9 (by kernel_rfl) rfl (fun K hK => ?_)
    go_simp
    refine hK.out _ _ (fun h => absurd rfl h) ?_
    clear hK K
    refine anyE_done (by kernel_rfl) ?_ _
    go_wp2_with fail
    refine bodyPost_ret (v := .tuple #[.pointer (some ⟨b', 0, none⟩), .bool true]) (by simp [results, Tryz.results115, go_sem]) rfl ?_
    exact ⟨clock', L', Z', H', H1.out, H2.out, H4.out, HI4.out, .inr ⟨_, b', rfl, rfl, H3.out⟩⟩
end Go.Proofs.YtjkkojefpecbfaaGreat

/- What put answers. -/
namespace Go.Proofs.YtjkkojefpecbfaaGreat
open Go.ChangeShapes Go.WideShapes Go.ChangeAt Go.RowKit

theorem grown_kept {mb cr : Nat} {w w' : World} (h : KeptX (fun k => k = mb ∨ k = cr) w w') (hc : w.heap.size ≤ cr) : w.grownBy w' (some mb) :=
  ⟨h.os, h.tape, h.output, h.size, fun k hk hr => h.block k hk (fun e => e.elim (fun e => hr (by rw [e])) (fun e => by omega))⟩
set_option maxRecDepth 20000 in
set_option maxHeartbeats 4000000 in
theorem put_any (base Sb mb gb clock : Nat) (L : List (Nk × Nat × Nat)) (Z : Nat → Zs) (H : Nat → Bool) (T A : Tt) (b ab : Nat) (w : World) (hs : St base w Sb mb gb clock L Z H) (hbase : base ≤ w.heap.size) (hT : IsT L T b) (hP : T.all nodeP) (hTA : IsT L A ab) (hPA : A.all nodeP) :
    Calls Tryz.prog 67 #[.pointer (some ⟨Sb, 0, none⟩), .pointer (some ⟨b, 0, none⟩), .pointer (some ⟨ab, 0, none⟩)] w (WithOut base Sb mb gb L (fitT (putR A T 0)) w) := by
  have hmf : ∀ (fn : Fn) (first cap : Array Value) (w : World), (Instr.makeFunc fn first cap).run Tryz.prog w = .ok (.func fn first cap) w := fun _ _ _ _ => rfl
  have hsf : ∀ (a : Addr) (f : Fn) (x y : Array Value) (w : World), (store a (.func f x y)).run Tryz.prog w = stored Tryz.prog w a (.func f x y) .plain := fun a f x y w => run_store Tryz.prog w a _ _ rfl
  have hcT := (ist_lt hs hT).1
  have hcA := (ist_lt hs hTA).1
  obtain ⟨W, hW⟩ : ∃ W, W = (w.alloc (.cells #[.pointer (some ⟨Sb, 0, none⟩)] 82)).alloc (.cells #[.pointer (some ⟨ab, 0, none⟩)] 80) := ⟨_, rfl⟩
  have hbW : Below w.heap.size w W := by rw [hW]; exact bel_alloc (bel_alloc (Below.refl _ _) _) _
  have HWs : Hid (W.heap.size = w.heap.size + 2) := by show _ = _; rw [hW]; simp
  have c0 : W.cell? ⟨w.heap.size, 0, none⟩ = some (.pointer (some ⟨Sb, 0, none⟩)) := by rw [hW]; simp [go_sem]
  have c1 : W.cell? ⟨w.heap.size + 1, 0, none⟩ = some (.pointer (some ⟨ab, 0, none⟩)) := by rw [hW]; simp [go_sem]
  have l0 := lt_cell c0
  have l1 := lt_cell c1
  have hml : mb < w.heap.size := (Array.getElem?_eq_some_iff.1 hs.mp).1
  have hsW := hs.keep hbW hbase
  have hz := ist_z hsW T.cnt T b (Nat.le_refl _) hT
  obtain ⟨ps, c, hpl, hm, _⟩ := ist_open hT
  obtain ⟨lv, ls, nb, _⟩ := (hsW.ents _ hm).node
  have nb : NbAt W b (tmL (keyP T.hd ps) lv (Z b) (H b)) := nb
  rw [hz] at nb
  have a9 : W.cell? ⟨b, 9, none⟩ = some (.int .i64 (T.cnt : Int)) := by rw [nb.cell 9 (by omega), ← T.z_sz]; rfl
  have HLF := hide (lifter_any Sb b T.cnt W a9 hcT)
  have HS := hide hsW
  have HBW := hide hbW
  have HT := hide hT
  have HP := hide hP
  have HTA := hide hTA
  have HPA := hide hPA
  have HPB := hide (put_both A T (all_mono node_var hPA) hcA (all_mono node_var hP) hcT)
  clear hs hsW hbW hT hP hTA hPA nb hz hm a9
  go_enter Tryz.func67, Tryz.ntmps67
  go_upto_region 1 with fail
  rw [← hW]
  clear hW
  go_wp2_with fail
  refine HLF.out.mono ?_
  rintro e w2 ⟨rfl, hr2, hs2, hb2⟩
  have hWs := HWs.out
  obtain ⟨W3, hW3⟩ : ∃ W3, W3 = w2.alloc (.cells #[.func (.func 156) #[] #[.pointer (some ⟨W.heap.size + 1, 0, none⟩), .pointer (some ⟨W.heap.size, 0, none⟩)]] 161) := ⟨_, rfl⟩
  have hb3 : Below w2.heap.size w2 W3 := by rw [hW3]; exact bel_alloc (Below.refl _ _) _
  have c2 : W3.cell? ⟨w2.heap.size, 0, none⟩ = some (.func (.func 156) #[] #[.pointer (some ⟨W.heap.size + 1, 0, none⟩), .pointer (some ⟨W.heap.size, 0, none⟩)]) := by rw [hW3]; simp [go_sem]
  have l2 := lt_cell c2
  have hbb := bel_trans hb2 hb3
  have hrl2 : W.heap.size + 1 < w2.heap.size := (Array.getElem?_eq_some_iff.1 hr2).1
  have hI : PutInv Sb ab w2.heap.size (w.heap.size + 1) w.heap.size (W.heap.size + 1) W.heap.size (20000 - (T.cnt : Int)) W3 := ⟨c2, keep_cell hbb c1, keep_cell hbb c0, (hb3.block _ hrl2).trans hr2, keep_cell hb3 hs2⟩
  have hlt : ∀ x ∈ [w2.heap.size, w.heap.size + 1, w.heap.size, W.heap.size + 1, W.heap.size], x < W3.heap.size := fun x hx => by
    simp only [List.mem_cons, List.not_mem_nil, or_false] at hx
    rcases hx with e | e | e | e | e <;> omega
  have hne : ∀ x ∈ [w2.heap.size, w.heap.size + 1, w.heap.size, W.heap.size + 1, W.heap.size], x ≠ mb := fun x hx => by
    simp only [List.mem_cons, List.not_mem_nil, or_false] at hx
    rcases hx with e | e | e | e | e <;> omega
  have hmlo : base ≤ mb := HS.out.lows.2
  have HC := hide (change_any base Sb mb gb (fun k => k = mb ∨ k = W.heap.size + 1) [w2.heap.size, w.heap.size + 1, w.heap.size, W.heap.size + 1, W.heap.size] [(A, ab)] (RoomOk varP) (PutInv Sb ab w2.heap.size (w.heap.size + 1) w.heap.size (W.heap.size + 1) W.heap.size) (knowP A) 115 (.pointer (some ⟨w2.heap.size, 0, none⟩)) (.pointer (some ⟨w.heap.size + 1, 0, none⟩)) (.pointer (some ⟨w.heap.size, 0, none⟩)) 100000 enter115 (.inl rfl) (fun k hk => by rcases hk with e | e <;> omega) (fun s w w' h hh => h.same s w w' hh) (put_pre A (all_mono node_var HPA.out) hcA)
    (hide (putF_ok base Sb mb gb ab _ _ _ _ _ A 100000 HPA.out (by omega) hne (by omega) (by omega))) (by omega) hne T b (20000 - (T.cnt : Int)) W3 clock L Z H (HS.out.keep hbb (by omega)) (by omega) HT.out HP.out (by omega) (fun p hp => by simp only [List.mem_singleton] at hp; subst hp; exact HTA.out) ⟨all_mono node_var HP.out, hcT, by omega, by omega⟩ hI hlt (fun k hk => by rcases hk with e | e <;> omega))
  have c0 := keep_cell hbb c0
  have HB3 := hide (bel_trans HBW.out hbb)
  have hcr : w.heap.size ≤ W.heap.size + 1 := by omega
  clear hWs hrl2
  clear hr2 hs2 hb2 hb3 hbb hI hlt hne HLF HS c1 c2 l0 l1
  have l0 := lt_cell c0
  have HRES := HPB
  generalize chgS (knowP A) T 0 (20000 - (T.cnt : Int)) = r at *
  go_upto_region 2 with fail
  rw [← hW3]
  clear hW3
  go_wp2_with fail
  refine HC.out.mono ?_
  rintro e w1 ⟨b', clock', L', Z', H', rfl, h1, h2, h3, h4, h5⟩
  have H1 := hide h1
  have H2 := hide h2
  have H3 : Hid (w.grownBy w1 (some mb)) := grown_kept ((KeptX.of HB3.out).trans h3) (by omega)
  have H5 : Hid (Res gb L' (fitT (putR A T 0)) b') := by show Res _ _ _ _; rw [← HRES.out]; exact h5
  clear h1 h2 h3 h4 h5
  go_wp2_with fail
  go_ret
  exact ⟨b', clock', L', Z', H', rfl, H1.out, H2.out, H5.out, H3.out⟩
end Go.Proofs.YtjkkojefpecbfaaGreat

/- What the program's Put answers. -/
namespace Go.Proofs.YtjkkojefpecbfaaGreat
open Go.ChangeShapes Go.WideShapes Go.ChangeAt Go.RowKit

theorem var_lev' : VarOk levP := fun _ => ⟨fun l hl => by simp at hl, by simp⟩
/-- What Put answers. -/
def putA (bs aa : List Td) (TB TA : Tt) : List Td × Int := if termB bs = true ∧ termB aa = true then ansT (fitT (putR TA TB 0)) else ([], 1)
set_option maxRecDepth 20000 in
set_option maxHeartbeats 8000000 in
theorem implPut_any (vb va : Value) (bs aa : List Td) (TB TA : Tt) (w : World) (hnb : TNodesAt w vb bs) (hna : TNodesAt w va aa) (hzb : ∀ td ∈ bs, TLens td) (hza : ∀ td ∈ aa, TLens td) (hsb : ∀ td ∈ bs, TSmall td) (hsa : ∀ td ∈ aa, TSmall td) (hpb : ∀ td ∈ bs, (spell td.lv).length ≤ 1000000000) (hpa : ∀ td ∈ aa, (spell td.lv).length ≤ 1000000000) (hTB : TreeFor bs TB) (hTA : TreeFor aa TA) :
    Calls Tryz.prog 29 #[.agg #[vb], .agg #[va]] w fun e w' => TOut w.heap.size w' e (putA bs aa TB TA) ∧ Below w.heap.size w w' := by
  obtain ⟨A, hA⟩ : ∃ A, A = putA bs aa TB TA := ⟨_, rfl⟩
  rw [← hA]
  have HAA := hide hA
  clear hA
  obtain ⟨W, hW⟩ : ∃ W, W = ((w.alloc (.cells #[vb] 28)).alloc (.cells #[va] 28)).alloc (.cells #[.slice none 0 0] 28) := ⟨_, rfl⟩
  have hbW : Below w.heap.size w W := by rw [hW]; exact bel_alloc (bel_alloc (bel_alloc (Below.refl w.heap.size w) _) _) _
  have HRB := hide (fun (w2 : World) (Sb mb gb : Nat) (Z0 : Nat → Zs) (H0 : Nat → Bool) => read_more vb bs W w2 Sb mb gb 0 [] Z0 H0 (hnb.keep hbW) hzb hsb hpb)
  have HRA := hide (fun (w2 : World) (Sb mb gb clock : Nat) (L0 : List (Nk × Nat × Nat)) (Z0 : Nat → Zs) (H0 : Nat → Bool) => read_more va aa W w2 Sb mb gb clock L0 Z0 H0 (hna.keep hbW) hza hsa hpa)
  have HBW := hide hbW
  have HW := hide hW
  have HTB := hide hTB
  have HTA := hide hTA
  obtain ⟨b1, capb, rfl, _, _, _⟩ := hnb
  obtain ⟨a1, capa, rfl, _, _, _⟩ := hna
  have c0 : W.cell? ⟨w.heap.size, 0, none⟩ = some (.slice b1 bs.length capb) := by rw [hW]; simp [go_sem]
  have c1 : W.cell? ⟨w.heap.size + 1, 0, none⟩ = some (.slice a1 aa.length capa) := by rw [hW]; simp [go_sem]
  have HR : Hid (W.heap[w.heap.size + 1 + 1]? = some (.cells #[.slice none 0 0] 28 (0, 0))) := by show _ = _; rw [hW]; exact heap_alloc_at _ _ (by simp)
  have l0 := lt_cell c0
  have l1 := lt_cell c1
  clear hzb hza hsb hsa hpb hpa hbW hW hTB hTA
  go_enter Tryz.func29, Tryz.ntmps29
  go_upto_region 1 with fail
  rw [← HW.out]
  go_wp2_with fail
  refine (newStore_any W).mono ?_
  rintro e w2 ⟨⟨Sb, mb, gb, rfl, hs2⟩, hb2⟩
  have c0 := keep_cell hb2 c0
  have c1 := keep_cell hb2 c1
  have l0 := lt_cell c0
  have l1 := lt_cell c1
  have HCB := hide (HRB.out w2 Sb mb gb _ _ hb2 hs2)
  have HWs := hide HBW.out.size
  have hrl : w.heap.size + 1 + 1 < W.heap.size := (Array.getElem?_eq_some_iff.1 HR.out).1
  have c1W : Hid (W.cell? ⟨w.heap.size + 1, 0, none⟩ = some (.slice a1 aa.length capa)) := by show _ = _; rw [HW.out]; simp [go_sem]
  clear hs2 hb2 HW HRB
  go_wp2_with fail
  refine HCB.out.mono ?_
  rintro e w3 ⟨he, hb3⟩
  have HB3 := hide hb3
  have c1 := keep_cell hb3 c1W.out
  have l1 := lt_cell c1
  clear HCB c0 l0 hb3
  have HBAD : Hid (∀ w' w4 : World, Below W.heap.size W w4 → w' = w4.setCell ⟨w.heap.size + 1 + 1, 0, none⟩ (.slice none 0 0) → TOut w.heap.size w' (.returned (.tuple #[.agg #[.slice none 0 0], .int .i64 1])) ([], 1) ∧ Below w.heap.size w w') := fun w' w4 h4 hw' => by
    subst hw'
    exact ⟨⟨_, rfl, tmV_nil _ _ _⟩, (bel_trans HBW.out h4).setCell (p := ⟨_, _, _⟩) (by show _ ≤ w.heap.size + 1 + 1; omega) _⟩
  have HRW : Hid (∀ w4 : World, Below W.heap.size W w4 → w4.heap[w.heap.size + 1 + 1]? = some (.cells #[.slice none 0 0] 28 (0, 0))) := fun w4 h4 => by rw [h4.block _ hrl]; exact HR.out
  rcases he with ⟨htb, rfl, hs3⟩ | ⟨htb, ptb, clock, L, Z, H, rfl, hs3, hr3, _⟩
  · have HE : Hid (A = ([], 1)) := by show _ = _; rw [HAA.out]; unfold putA; rw [if_neg (by simp [htb])]
    have HCA := hide (HRA.out w3 Sb mb gb _ _ _ _ HB3.out hs3)
    clear htb hs3 HRA
    go_wp2_with fail
    refine HCA.out.mono ?_
    rintro e w4 ⟨he4, hb4⟩
    have HB4 := hide hb4
    have c4 : w4.cell? ⟨w.heap.size + 1 + 1, 0, none⟩ = some (.slice none 0 0) := by rw [Lib.cell_of_heap (HRW.out w4 hb4)]; rfl
    have f4 : w4.frozen? ⟨w.heap.size + 1 + 1, 0, none⟩ = false := Lib.frozen_of_heap (HRW.out w4 hb4) 0
    have l4 := lt_cell c4
    clear hb4 HCA
    rcases he4 with ⟨hta, rfl, _⟩ | ⟨hta, pta, clock4, L4, Z4, H4, rfl, _⟩
    · clear hta
      go_wp2_with fail
      exact bodyPost_ret (v := .tuple #[.agg #[.slice none 0 0], .int .i64 1]) (by simp [results, Tryz.results29, go_sem, c4]) rfl (by rw [HE.out]; exact HBAD.out _ _ HB4.out rfl)
    · clear hta
      go_wp2_with fail
      exact bodyPost_ret (v := .tuple #[.agg #[.slice none 0 0], .int .i64 1]) (by simp [results, Tryz.results29, go_sem, c4]) rfl (by rw [HE.out]; exact HBAD.out _ _ HB4.out rfl)
  · have HCA := hide (HRA.out w3 Sb mb gb _ _ _ _ HB3.out hs3)
    have HR3 := hide hr3
    clear hs3 hr3 HRA
    go_wp2_with fail
    refine HCA.out.mono ?_
    rintro e w4 ⟨he4, hb4⟩
    have HB4 := hide hb4
    have c4 : w4.cell? ⟨w.heap.size + 1 + 1, 0, none⟩ = some (.slice none 0 0) := by rw [Lib.cell_of_heap (HRW.out w4 hb4)]; rfl
    have f4 : w4.frozen? ⟨w.heap.size + 1 + 1, 0, none⟩ = false := Lib.frozen_of_heap (HRW.out w4 hb4) 0
    have l4 := lt_cell c4
    have hb4s := hb4.size
    clear hb4 HCA
    rcases he4 with ⟨hta, rfl, _⟩ | ⟨hta, pta, clock4, L4, Z4, H4, rfl, hs4, hr4, hx4⟩
    · have HE : Hid (A = ([], 1)) := by show _ = _; rw [HAA.out]; unfold putA; rw [if_neg (by simp [hta])]
      clear hta
      go_wp2_with fail
      exact bodyPost_ret (v := .tuple #[.agg #[.slice none 0 0], .int .i64 1]) (by simp [results, Tryz.results29, go_sem, c4]) rfl (by rw [HE.out]; exact HBAD.out _ _ HB4.out rfl)
    · have HE : Hid (A = ansT (fitT (putR TA TB 0))) := by show _ = _; rw [HAA.out]; unfold putA; rw [if_pos ⟨htb, hta⟩]
      obtain ⟨hfb, hPB⟩ := HTB.out htb
      obtain ⟨hfa, hPA⟩ := HTA.out hta
      have hIB := (rd_root HR3.out hfb).more (fun x hx => (hx4 x hx).1)
      have hIA := rd_root hr4 hfa
      have HL := hide (put_any W.heap.size Sb mb gb clock4 L4 Z4 H4 TB TA (ptb (bs.length - 1)) (pta (aa.length - 1)) w4 hs4 hb4s hIB hPB hIA hPA)
      have HLV : Hid (∀ T', fitT (putR TA TB 0) = some T' → T'.all levP) := fun T' h => by rw [fit_some h]; exact put_all var_lev' TA (all_mono node_lev hPA) TB 0 (all_mono node_lev hPB)
      have hml : mb < w4.heap.size := (Array.getElem?_eq_some_iff.1 hs4.mp).1
      have hmlo : W.heap.size ≤ mb := hs4.lows.2
      generalize pta (aa.length - 1) = ra at *
      generalize ptb (bs.length - 1) = rb at *
      generalize fitT (putR TA TB 0) = rr at *
      clear htb hta hs4 hr4 hx4 hfb hPB hfa hPA hIB hIA HR3 HAA
      go_wp2_with fail
      refine HL.out.mono ?_
      rintro e w5 ⟨b5, clock5, L5, Z5, H5, rfl, hs5, hL5, hr5, hg5⟩
      have HST := hide (sizedTerm_any W.heap.size Sb mb gb clock5 L5 Z5 H5 w5 hs5 (Nat.le_trans hb4s hg5.size) rr b5 hr5 HLV.out)
      have HR5 : Hid (w5.heap[w.heap.size + 1 + 1]? = some (.cells #[.slice none 0 0] 28 (0, 0))) := by show _ = _; rw [hg5.block _ l4 (fun e => by have := Option.some.inj e; omega)]; exact HRW.out w4 HB4.out
      have HB5 : Hid (Below w.heap.size w w5) := (bel_trans HBW.out HB4.out).grown hg5 (by have := HWs.out; omega) (fun k hk => by have := Option.some.inj hk; have := HWs.out; omega)
      clear hs5 hL5 hr5 hg5 c4 f4 l4 HL
      go_wp2_with fail
      refine HST.out.mono ?_
      rintro e w6 ⟨⟨v6, rfl, hv6⟩, hb6⟩
      obtain ⟨va, vc, rfl⟩ := hv6.form
      have hl5 : w.heap.size + 1 + 1 < w5.heap.size := (Array.getElem?_eq_some_iff.1 HR5.out).1
      have HR6 : Hid (w6.heap[w.heap.size + 1 + 1]? = some (.cells #[.slice none 0 0] 28 (0, 0))) := by show _ = _; rw [hb6.block _ hl5]; exact HR5.out
      have c6 : w6.cell? ⟨w.heap.size + 1 + 1, 0, none⟩ = some (.slice none 0 0) := by rw [Lib.cell_of_heap HR6.out]; rfl
      have f6 : w6.frozen? ⟨w.heap.size + 1 + 1, 0, none⟩ = false := Lib.frozen_of_heap HR6.out 0
      have l6 := lt_cell c6
      have HB6 := hide (bel_trans HB5.out hb6)
      have HV6 := hide (hv6.mono HB5.out.size (Nat.le_refl _))
      clear hv6 hb6 HST
      go_wp2_with fail
      refine bodyPost_ret (v := .tuple #[.agg #[.slice va (ansT rr).1.length vc], .int .i64 (ansT rr).2]) (by simp [results, Tryz.results29, go_sem, c6]) rfl ⟨⟨_, by rw [HE.out], ?_⟩, ?_⟩
      · rw [HE.out, size_set]
        exact tmV_off' HV6.out HR6.out (by decide) (fun k hk => Below.heap_setCell w6 _ _ k hk)
      · exact HB6.out.setCell (p := ⟨_, _, _⟩) (by show _ ≤ w.heap.size + 1 + 1; omega) _
end Go.Proofs.YtjkkojefpecbfaaGreat
