/- What markCtorS and markDecl answer: a declaration's marks are written within its own blocks. -/
import Derived.Test.YtpmpooekpeocdaaGreatNaB
import Derived.Test.YtpmpooekpeocdaaGreatMkV
namespace Go.Proofs.YtpmpooekpeocdaaGreat
open Go.ChangeShapes Go.WideShapes Go.ChangeAt Go.RowKit

/-- How many marks constructors take. -/
def costC : List Ct → Nat
  | [] => 0
  | c :: cs => 1 + costT c.t + costC cs
theorem costC_append (a b : List Ct) : costC (a ++ b) = costC a + costC b := by
  induction a with
  | nil => simp [costC]
  | cons x a ih => simp [costC, ih]; omega
theorem costC_snoc (cs : List Ct) (i : Nat) (h : i < cs.length) : costC (cs.take (i + 1)) = costC (cs.take i) + (1 + costT cs[i].t) := by
  rw [List.take_succ_eq_append_getElem h, costC_append]; simp [costC]
theorem costC_le (cs : List Ct) (i : Nat) : costC (cs.take i) ≤ costC cs := by
  conv => rhs; rw [← List.take_append_drop i cs, costC_append]
  omega
def costD (d : Dc) : Nat := d.ps.length + costT d.t + costT d.v + costC d.cs
theorem TsR.chg {lo hi l2 h2 : Nat} {w w' : World} {R n cap : Nat} {ts : List Td} (h : TsR lo hi w R n cap ts) (hc : Chg l2 h2 w w') (hd : hi ≤ l2 ∨ h2 ≤ lo) (hhi : hi ≤ w.heap.size) : TsR lo hi w' R n cap ts := h.same (fun b q1 q2 => hc.out (by omega) (by omega))
theorem CsR.chg {lo hi l2 h2 : Nat} {w w' : World} {R n cap : Nat} {cs : List Ct} (h : CsR lo hi w R n cap cs) (hc : Chg l2 h2 w w') (hd : hi ≤ l2 ∨ h2 ≤ lo) (hhi : hi ≤ w.heap.size) : CsR lo hi w' R n cap cs := h.same (fun b q1 q2 => hc.out (by omega) (by omega))

set_option maxRecDepth 20000 in
set_option maxHeartbeats 4000000 in
theorem markCtorS_any (lo hi R cap : Nat) (cs : List Ct) (k0 : Nat) (w : World) (h : CsR lo hi w R cs.length cap cs) (hhi : hi ≤ w.heap.size) (hsm : ∀ c ∈ cs, CtSmall c) (hn : cs.length ≤ 1048576) (hk1 : 1 ≤ k0) (hk : k0 + costC cs ≤ 50000000) :
    Calls Tryz.prog 49 #[.slice (some ⟨R, 0, none⟩) cs.length cap, .int .i64 k0] w fun e w' => e = .returned (.int .i64 ((k0 + costC cs : Nat) : Int)) ∧ Chg lo hi w w' := by
  obtain ⟨hR1, hR2, hR3⟩ := h.lt
  obtain ⟨xs0, f, h1, h2, h3, h4, h5⟩ := h
  have HM := hide h3
  have HSM := hide hsm
  have H0 : Hid (∀ i (h : i < cs.length), 0 ≤ i → CtC (f i) (f (i + 1)) w xs0 i cs[i]) := fun i hi _ => h5 i hi
  have HR := hide h1
  clear h3 h5 hsm h1
  go_enter Tryz.func49, Tryz.ntmps49
  go_wp2_with fail
  go_loopw [1, 5] (fun m i wr => ∃ (j K : Nat) (xs : List Value), j ≤ cs.length ∧ i = .int .i64 j ∧ m = .int .i64 K ∧ Hid (K = k0 + costC (cs.take j)) ∧ Hid (wr.ownsRow lo 73 2 (.slice (some ⟨R, 0, none⟩) cs.length cap) cs.length xs) ∧ Hid (∀ i (h : i < cs.length), j ≤ i → CtC (f i) (f (i + 1)) wr xs i cs[i]) ∧ Hid (Chg lo hi w wr)) (fun _ i _ => cs.length - (intOf i).toNat)
  case atStart => exact ⟨0, k0, xs0, by omega, rfl, rfl, by show _ = _; simp [costC], HR, H0, Chg.refl _ _ _⟩
  case round =>
    obtain ⟨j, K, xs, hj, rfl, rfl, HK, HO, HN, HC⟩ := hrel
    clear H0 HR
    have hK1 : 1 ≤ K := by have := HK.out; omega
    have hK2 : K ≤ 50000000 := by have := HK.out; have := costC_le cs j; omega
    have hm0 := mono_le HM.out 0 cs.length (by omega) (Nat.le_refl _)
    by_cases hlt : j < cs.length
    · have hlt' : (j : Int) < cs.length := by omega
      obtain ⟨c0, g, c1, hT⟩ := HN.out j hlt (Nat.le_refl _)
      have m1 := mono_le HM.out 0 j (by omega) (by omega)
      have m2 := mono_le HM.out (j + 1) cs.length (by omega) (Nat.le_refl _)
      have m3 := HM.out j hlt
      have hsz := HC.out.1.size
      obtain ⟨q1, q2⟩ := HSM.out cs[j] (List.getElem_mem hlt)
      have HQ2 := hide q2
      have hxl := HO.out.1
      have HMT := hide (markText_any K wr (by omega) (by omega))
      have HT := hide hT
      have HX1 := hide c1
      have HX0 := hide c0
      have HCST : Hid (K + 1 + costT cs[j].t = k0 + costC (cs.take (j + 1))) := by show _ = _; rw [costC_snoc cs j hlt]; have := HK.out; omega
      have hKb : K + 1 + costT cs[j].t ≤ 50000000 := by have := HCST.out; have := costC_le cs (j + 1); omega
      clear hT c0 c1 q2
      go_wp2_with fail
      refine HMT.out.mono ?_
      rintro e w2 ⟨rfl, hb2⟩
      have hs2 := hb2.size
      have s2 := row_keep hb2 HO.out
      have y0 : w2.cell? ⟨R, j * 2, none⟩ = some (.string cs[j].s) := by rw [s2.cellAt _ (by omega)]; exact HX0.out
      have y0f := s2.frozenAt (j * 2)
      obtain ⟨W3, hW3⟩ : ∃ W3, W3 = w2.setCell ⟨R, j * 2, none⟩ (.string (mt K)) := ⟨_, rfl⟩
      have s3 : W3.ownsRow lo 73 2 (.slice (some ⟨R, 0, none⟩) cs.length cap) cs.length (xs.set (j * 2) (.string (mt K))) := by rw [hW3]; exact (s2.stored (j * 2) _).1
      have hC3 : Chg lo hi w2 W3 := by rw [hW3]; exact Chg.set w2 (p := ⟨R, j * 2, none⟩) hR1 hR2 _
      have hs3 : W3.heap.size = w2.heap.size := by rw [hW3, size_set]
      have hb3 : ∀ b, b < wr.heap.size → b ≠ R → W3.heap[b]? = wr.heap[b]? := fun b hb hbg => by
        rw [hW3, Below.heap_setCell w2 _ _ b hbg]; exact hb2.block b hb
      have hT3 : TsR (f j) (f (j + 1)) W3 g cs[j].t.length cs[j].t.length cs[j].t := HT.out.same (fun b q1 q2 => hb3 b (by omega) (by omega))
      have y1 : W3.cell? ⟨R, j * 2 + 1, none⟩ = some (.slice (some ⟨g, 0, none⟩) cs[j].t.length cs[j].t.length) := by rw [s3.cellAt _ (by omega), List.getElem?_set_ne (by omega)]; exact HX1.out
      have ly1 := lt_cell y1
      have HMN := hide (markNodeS_any (f j) (f (j + 1)) g cs[j].t.length cs[j].t (K + 1) W3 hT3 (by omega) HQ2.out q1 (by omega) (by omega))
      have HS3 := hide s3
      have HB3 := hide hb3
      have HCC := hide ((HC.out.trans (Chg.of (hi := hi) hb2 (by omega))).trans hC3)
      have hsw : wr.heap.size ≤ W3.heap.size := by omega
      clear s2 s3 hC3 hb3 hb2 HMT HT HX0 HX1 hT3 hs3 hs2
      obtain ⟨L, hL⟩ : ∃ L, L = costT cs[j].t := ⟨_, rfl⟩
      rw [← hL] at HMN HCST hKb
      clear hL
      go_upto_region 6 with fail
      rw [← hW3]
      clear hW3 y0 y0f
      first | rw [show (K : Int) + 1 = ((K + 1 : Nat) : Int) by omega] | skip
      go_wp2_with fail
      refine HMN.out.mono ?_
      rintro e w4 ⟨rfl, hc4⟩
      have hs4 := hc4.1.size
      have HS4 : Hid (w4.ownsRow lo 73 2 (.slice (some ⟨R, 0, none⟩) cs.length cap) cs.length (xs.set (j * 2) (.string (mt K)))) := row_same HS3.out (fun g hg => hc4.out (by simp [Value.ownBlock] at hg; omega) (World.ownsRow.lt HS3.out g hg).2)
      have HC4 := hide (HCC.out.trans (hc4.mono (lo' := lo) (hi' := hi) (by omega) (by omega)))
      have HN4 : Hid (∀ i (h : i < cs.length), j + 1 ≤ i → CtC (f i) (f (i + 1)) w4 (xs.set (j * 2) (.string (mt K))) i cs[i]) := by
        show ∀ i, _
        intro i hi hji
        have m4 := mono_le HM.out (j + 1) i (by omega) (by omega)
        have m5 := mono_le HM.out (i + 1) cs.length (by omega) (Nat.le_refl _)
        obtain ⟨a0, g', a1, a2⟩ := HN.out i hi (by omega)
        refine ⟨by rw [List.getElem?_set_ne (by omega)]; exact a0, g', by rw [List.getElem?_set_ne (by omega)]; exact a1, a2.same (fun b b1 b2 => ?_)⟩
        rw [hc4.out (.inr (by omega)) (by omega)]
        exact HB3.out b (by omega) (by omega)
      clear hc4 HB3 HS3 HCC HMN y1 ly1
      go_wp2_with fail
      go_roundw
      case rel => exact ⟨j + 1, K + 1 + L, _, by omega, by go_num, by go_num, HCST, HS4, HN4, HC4⟩
      case measure => simp [intOf]; omega
    · have hjn : j = cs.length := by omega
      subst hjn
      have HRR : Hid (K = k0 + costC cs) := by show _ = _; have := HK.out; rwa [List.take_length] at this
      go_wp2_with fail
      go_ret
      exact ⟨ret_int (by rw [HRR.out]), HC.out⟩
set_option maxRecDepth 20000 in
set_option maxHeartbeats 4000000 in
theorem markDecl_any (lo hi gp gt gv gc : Nat) (d : Dc) (k : Nat) (w : World) (h : DcO lo hi w gp gt gv gc d) (hhi : hi ≤ w.heap.size) (hsm : DcSmall d) (hk1 : 1 ≤ k) (hk : k + costD d ≤ 50000000) :
    Calls Tryz.prog 18 #[declV d (.slice (some ⟨gp, 0, none⟩) d.ps.length d.ps.length) (.slice (some ⟨gt, 0, none⟩) d.t.length d.t.length) (.slice (some ⟨gv, 0, none⟩) d.v.length d.v.length) (.slice (some ⟨gc, 0, none⟩) d.cs.length d.cs.length), .int .i64 k] w fun e w' => e = .returned (.int .i64 ((k + costD d : Nat) : Int)) ∧ Chg lo hi w w' := by
  obtain ⟨l1, h1, l2, h2, l3, h3, l4, h4, h⟩ := h
  obtain ⟨o1, o2, o3, o4, o5, o6, o7, o8, o9⟩ := h.o
  obtain ⟨W, hW⟩ : ∃ W, W = w.alloc (.cells #[.int .i64 d.k, .string d.s, .slice (some ⟨gp, 0, none⟩) d.ps.length d.ps.length, .slice (some ⟨gt, 0, none⟩) d.t.length d.t.length, .slice (some ⟨gv, 0, none⟩) d.v.length d.v.length, .int .i64 d.f, .slice (some ⟨gc, 0, none⟩) d.cs.length d.cs.length] 36) := ⟨_, rfl⟩
  have hbW : Below w.heap.size w W := by rw [hW]; exact bel_alloc (Below.refl _ _) _
  have HW0 : Hid (W.heap[w.heap.size]? = some (.cells #[.int .i64 d.k, .string d.s, .slice (some ⟨gp, 0, none⟩) d.ps.length d.ps.length, .slice (some ⟨gt, 0, none⟩) d.t.length d.t.length, .slice (some ⟨gv, 0, none⟩) d.v.length d.v.length, .int .i64 d.f, .slice (some ⟨gc, 0, none⟩) d.cs.length d.cs.length] 36 (0, 0))) := by show _ = _; rw [hW]; exact heap_alloc_new w _
  have hws := hbW.size
  have hR := h.keep hbW hhi
  have HC0 : Hid (Chg lo hi w W) := Chg.of hbW (by omega)
  have HCD : Hid (k + d.ps.length + costT d.t + costT d.v + costC d.cs = k + costD d) := by show _ = _; unfold costD; omega
  have hkb : k + d.ps.length + costT d.t + costT d.v + costC d.cs ≤ 50000000 := by have := HCD.out; omega
  obtain ⟨b1, b2⟩ := hR.ps
  have bg := b2 gp rfl
  have HM1 := hide (markStringS_any l1 h1 gp d.ps.length d.ps.length _ k W b1 bg (by omega) hsm.ps hk1 (by omega))
  have HTT := hide hR.t
  have HTV := hide hR.v
  have HTC := hide hR.cs
  have HSM := hide hsm
  have c2 : W.cell? ⟨w.heap.size, 2, none⟩ = some (.slice (some ⟨gp, 0, none⟩) d.ps.length d.ps.length) := by rw [Lib.cell_of_heap HW0.out]; rfl
  have l0 := lt_cell c2
  clear h hbW hR b1 b2 hsm
  obtain ⟨L1, hL1⟩ : ∃ L1, L1 = costT d.t := ⟨_, rfl⟩
  obtain ⟨L2, hL2⟩ : ∃ L2, L2 = costT d.v := ⟨_, rfl⟩
  obtain ⟨L3, hL3⟩ : ∃ L3, L3 = costC d.cs := ⟨_, rfl⟩
  have HL1 := hide hL1
  have HL2 := hide hL2
  have HL3 := hide hL3
  rw [← hL1, ← hL2, ← hL3] at HCD hkb
  clear hL1 hL2 hL3
  unfold declV
  go_enter Tryz.func18, Tryz.ntmps18
  go_upto_region 1 with fail
  rw [← hW]
  clear hW
  go_wp2_with fail
  refine HM1.out.mono ?_
  rintro e w1 ⟨rfl, hc1⟩
  have hs1 := hc1.1.size
  have HC1 : Hid (Chg lo hi w w1) := HC0.out.trans (hc1.mono (by omega) (by omega))
  have HW1 : Hid (w1.heap[w.heap.size]? = some (.cells #[.int .i64 d.k, .string d.s, .slice (some ⟨gp, 0, none⟩) d.ps.length d.ps.length, .slice (some ⟨gt, 0, none⟩) d.t.length d.t.length, .slice (some ⟨gv, 0, none⟩) d.v.length d.v.length, .int .i64 d.f, .slice (some ⟨gc, 0, none⟩) d.cs.length d.cs.length] 36 (0, 0))) := (hc1.out (.inr (by omega)) l0).trans HW0.out
  have HM2 := hide (markTerm_any l2 h2 gt d.t.length d.t (k + d.ps.length) w1 (HTT.out.chg hc1 (.inr (by omega)) (by omega)) (by omega) HSM.out.t.2 HSM.out.t.1 (by omega) (by rw [← HL1.out]; omega))
  have HTV1 := hide (HTV.out.chg hc1 (.inr (by omega)) (by omega))
  have HTC1 := hide (HTC.out.chg hc1 (.inr (by omega)) (by omega))
  have c3 : w1.cell? ⟨w.heap.size, 3, none⟩ = some (.slice (some ⟨gt, 0, none⟩) d.t.length d.t.length) := by rw [Lib.cell_of_heap HW1.out]; rfl
  have l1' := lt_cell c3
  rw [← HL1.out] at HM2
  clear hc1 HC0 HM1 HTT HTV HTC HW0 c2 l0 bg
  go_wp2_with fail
  refine HM2.out.mono ?_
  rintro e w2 ⟨rfl, hc2⟩
  have hs2 := hc2.1.size
  have HC2 : Hid (Chg lo hi w w2) := HC1.out.trans (hc2.mono (by omega) (by omega))
  have HW2 : Hid (w2.heap[w.heap.size]? = some (.cells #[.int .i64 d.k, .string d.s, .slice (some ⟨gp, 0, none⟩) d.ps.length d.ps.length, .slice (some ⟨gt, 0, none⟩) d.t.length d.t.length, .slice (some ⟨gv, 0, none⟩) d.v.length d.v.length, .int .i64 d.f, .slice (some ⟨gc, 0, none⟩) d.cs.length d.cs.length] 36 (0, 0))) := (hc2.out (.inr (by omega)) l1').trans HW1.out
  have HM3 := hide (markTerm_any l3 h3 gv d.v.length d.v (k + d.ps.length + L1) w2 (HTV1.out.chg hc2 (.inr (by omega)) (by omega)) (by omega) HSM.out.v.2 HSM.out.v.1 (by omega) (by rw [← HL2.out]; omega))
  have HTC2 := hide (HTC1.out.chg hc2 (.inr (by omega)) (by omega))
  have c4 : w2.cell? ⟨w.heap.size, 4, none⟩ = some (.slice (some ⟨gv, 0, none⟩) d.v.length d.v.length) := by rw [Lib.cell_of_heap HW2.out]; rfl
  have l2' := lt_cell c4
  rw [← HL2.out] at HM3
  clear hc2 HC1 HM2 HTV1 HTC1 HW1 c3 l1'
  go_wp2_with fail
  refine HM3.out.mono ?_
  rintro e w3 ⟨rfl, hc3⟩
  have hs3 := hc3.1.size
  have HC3 : Hid (Chg lo hi w w3) := HC2.out.trans (hc3.mono (by omega) (by omega))
  have HW3 : Hid (w3.heap[w.heap.size]? = some (.cells #[.int .i64 d.k, .string d.s, .slice (some ⟨gp, 0, none⟩) d.ps.length d.ps.length, .slice (some ⟨gt, 0, none⟩) d.t.length d.t.length, .slice (some ⟨gv, 0, none⟩) d.v.length d.v.length, .int .i64 d.f, .slice (some ⟨gc, 0, none⟩) d.cs.length d.cs.length] 36 (0, 0))) := (hc3.out (.inr (by omega)) l2').trans HW2.out
  have HM4 := hide (markCtorS_any l4 h4 gc d.cs.length d.cs (k + d.ps.length + L1 + L2) w3 (HTC2.out.chg hc3 (.inr (by omega)) (by omega)) (by omega) HSM.out.cs.2 HSM.out.cs.1 (by omega) (by rw [← HL3.out]; omega))
  have c6 : w3.cell? ⟨w.heap.size, 6, none⟩ = some (.slice (some ⟨gc, 0, none⟩) d.cs.length d.cs.length) := by rw [Lib.cell_of_heap HW3.out]; rfl
  have l3' := lt_cell c6
  rw [← HL3.out] at HM4
  clear hc3 HC2 HM3 HTC2 HW2 c4 l2'
  go_wp2_with fail
  refine HM4.out.mono ?_
  rintro e w4 ⟨rfl, hc4⟩
  have HC4 : Hid (Chg lo hi w w4) := HC3.out.trans (hc4.mono (by omega) (by omega))
  clear hc4 HC3 HM4
  go_wp2_with fail
  go_ret
  exact ⟨ret_int (by have := HCD.out; omega), HC4.out⟩
end Go.Proofs.YtpmpooekpeocdaaGreat
