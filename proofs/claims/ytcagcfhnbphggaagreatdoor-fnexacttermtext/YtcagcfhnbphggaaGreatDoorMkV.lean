/- What markNodeS and markTerm answer: a term's marks are written within its own blocks. -/
import Derived.Test.YtcagcfhnbphggaaGreatDoorMkT
namespace Go.Proofs.YtcagcfhnbphggaaGreatDoor
open Go.ChangeShapes Go.WideShapes Go.ChangeAt Go.RowKit

/-- How many marks a list of nodes takes. -/
def costT : List Td → Nat
  | [] => 0
  | td :: ts => 4 + costLs td.lv + td.kids.length + costT ts
theorem costT_append (a b : List Td) : costT (a ++ b) = costT a + costT b := by
  induction a with
  | nil => simp [costT]
  | cons x a ih => simp [costT, ih]; omega
theorem costT_snoc (ts : List Td) (i : Nat) (h : i < ts.length) : costT (ts.take (i + 1)) = costT (ts.take i) + (4 + costLs ts[i].lv + ts[i].kids.length) := by
  rw [List.take_succ_eq_append_getElem h, costT_append]; simp [costT]
theorem costT_le (ts : List Td) (i : Nat) : costT (ts.take i) ≤ costT ts := by
  conv => rhs; rw [← List.take_append_drop i ts, costT_append]
  omega

set_option maxRecDepth 20000 in
set_option maxHeartbeats 4000000 in
theorem markNodeS_any (lo hi R cap : Nat) (ts : List Td) (k0 : Nat) (w : World) (h : TsR lo hi w R ts.length cap ts) (hhi : hi ≤ w.heap.size) (hsm : ∀ td ∈ ts, TSmall td) (hn : ts.length ≤ 1048576) (hk1 : 1 ≤ k0) (hk : k0 + costT ts ≤ 50000000) :
    Calls Tryz.prog 21 #[.slice (some ⟨R, 0, none⟩) ts.length cap, .int .i64 k0] w fun e w' => e = .returned (.int .i64 ((k0 + costT ts : Nat) : Int)) ∧ Chg lo hi w w' := by
  obtain ⟨hR1, hR2, hR3⟩ := h.lt
  obtain ⟨xs0, f, h1, h2, h3, h4, h5⟩ := h
  have HM := hide h3
  have HSM := hide hsm
  have H0 : Hid (∀ i (h : i < ts.length), 0 ≤ i → TdC (f i) (f (i + 1)) w xs0 i ts[i]) := fun i hi _ => h5 i hi
  have HR := hide h1
  clear h3 h5 hsm h1
  go_enter Tryz.func21, Tryz.ntmps21
  go_wp2_with fail
  go_loopw [1, 5] (fun m i wr => ∃ (j K : Nat) (xs : List Value), j ≤ ts.length ∧ i = .int .i64 j ∧ m = .int .i64 K ∧ Hid (K = k0 + costT (ts.take j)) ∧ Hid (wr.ownsRow lo 58 6 (.slice (some ⟨R, 0, none⟩) ts.length cap) ts.length xs) ∧ Hid (∀ i (h : i < ts.length), j ≤ i → TdC (f i) (f (i + 1)) wr xs i ts[i]) ∧ Hid (Chg lo hi w wr)) (fun _ i _ => ts.length - (intOf i).toNat)
  case atStart => exact ⟨0, k0, xs0, by omega, rfl, rfl, by show _ = _; simp [costT], HR, H0, Chg.refl _ _ _⟩
  case round =>
    obtain ⟨j, K, xs, hj, rfl, rfl, HK, HO, HN, HC⟩ := hrel
    clear H0 HR
    have hK1 : 1 ≤ K := by have := HK.out; omega
    have hK2 : K ≤ 50000000 := by have := HK.out; have := costT_le ts j; omega
    have hm0 := mono_le HM.out 0 ts.length (by omega) (Nat.le_refl _)
    by_cases hlt : j < ts.length
    · have hlt' : (j : Int) < ts.length := by omega
      obtain ⟨c0, c1, c2, c3, lv, kv, c4, c5, hT⟩ := HN.out j hlt (Nat.le_refl _)
      have m1 := mono_le HM.out 0 j (by omega) (by omega)
      have m2 := mono_le HM.out (j + 1) ts.length (by omega) (Nat.le_refl _)
      have m3 := HM.out j hlt
      have hsz := HC.out.1.size
      obtain ⟨q1, q2, q3⟩ := HSM.out ts[j] (List.getElem_mem hlt)
      have HQ2 := hide q2
      have hown := HO.out
      have hxl := hown.1
      have e0 := hown.cellAt (j * 6) (by omega)
      have e1 := hown.cellAt (j * 6 + 1) (by omega)
      have e2 := hown.cellAt (j * 6 + 2) (by omega)
      rw [c0] at e0
      rw [c1] at e1
      rw [c2] at e2
      have g0 := hown.frozenAt (j * 6)
      have g1 := hown.frozenAt (j * 6 + 1)
      have g2 := hown.frozenAt (j * 6 + 2)
      obtain ⟨W1, hW1⟩ : ∃ W1, W1 = ((wr.setCell ⟨R, j * 6, none⟩ (.int .i64 K)).setCell ⟨R, j * 6 + 1, none⟩ (.int .i64 ((K : Int) + 1))).setCell ⟨R, j * 6 + 2, none⟩ (.int .i64 ((K : Int) + 1 + 1)) := ⟨_, rfl⟩
      have s1 : W1.ownsRow lo 58 6 (.slice (some ⟨R, 0, none⟩) ts.length cap) ts.length (((xs.set (j * 6) (.int .i64 K)).set (j * 6 + 1) (.int .i64 ((K : Int) + 1))).set (j * 6 + 2) (.int .i64 ((K : Int) + 1 + 1))) := by
        rw [hW1]; exact ((((hown.stored (j * 6) (.int .i64 K)).1).stored (j * 6 + 1) (.int .i64 ((K : Int) + 1))).1.stored (j * 6 + 2) (.int .i64 ((K : Int) + 1 + 1))).1
      have hC1 : Chg lo hi wr W1 := by rw [hW1]; exact ((Chg.set wr (p := ⟨R, j * 6, none⟩) hR1 hR2 _).trans (Chg.set _ (p := ⟨R, j * 6 + 1, none⟩) hR1 hR2 _)).trans (Chg.set _ (p := ⟨R, j * 6 + 2, none⟩) hR1 hR2 _)
      have hs1 : W1.heap.size = wr.heap.size := by rw [hW1, size_set, size_set, size_set]
      have hb1 : ∀ b, b ≠ R → W1.heap[b]? = wr.heap[b]? := fun b hb => by rw [hW1, Below.heap_setCell _ _ _ b hb, Below.heap_setCell _ _ _ b hb, Below.heap_setCell _ _ _ b hb]
      have y3 : W1.cell? ⟨R, j * 6 + 3, none⟩ = some (.string ts[j].s) := by rw [s1.cellAt _ (by omega), List.getElem?_set_ne (by omega), List.getElem?_set_ne (by omega), List.getElem?_set_ne (by omega)]; exact c3
      have HMT := hide (markText_any (K + 3) W1 (by omega) (by omega))
      have HS1 := hide s1
      have HC1 := hide hC1
      have HB1 := hide hb1
      have HT := hide hT
      have HX4 := hide c4
      have HX5 := hide c5
      clear s1 hC1 hb1 hT c0 c1 c2 c3 c4 c5 q2 hown
      generalize ts[j].k = nk at *
      generalize ts[j].n = nn at *
      generalize ts[j].m = nm at *
      generalize ts[j].s = nss at *
      go_wp2_with fail
      rw [← hW1]
      clear hW1 e0 e1 e2 g0 g1 g2
      have hKc : (K : Int) + 1 + 1 + 1 = ((K + 3 : Nat) : Int) := by omega
      rw [hKc]
      clear hKc
      refine HMT.out.mono ?_
      rintro e w2 ⟨rfl, hb2⟩
      have hs2 := hb2.size
      have s2 := row_keep hb2 HS1.out
      have y3 := keep_cell hb2 y3
      have y3f := s2.frozenAt (j * 6 + 3)
      obtain ⟨W3, hW3⟩ : ∃ W3, W3 = w2.setCell ⟨R, j * 6 + 3, none⟩ (.string (mt (K + 3))) := ⟨_, rfl⟩
      have s3 : W3.ownsRow lo 58 6 (.slice (some ⟨R, 0, none⟩) ts.length cap) ts.length ((((xs.set (j * 6) (.int .i64 K)).set (j * 6 + 1) (.int .i64 ((K : Int) + 1))).set (j * 6 + 2) (.int .i64 ((K : Int) + 1 + 1))).set (j * 6 + 3) (.string (mt (K + 3)))) := by rw [hW3]; exact (s2.stored (j * 6 + 3) _).1
      have hC3 : Chg lo hi w2 W3 := by rw [hW3]; exact Chg.set w2 (p := ⟨R, j * 6 + 3, none⟩) hR1 hR2 _
      have hs3 : W3.heap.size = w2.heap.size := by rw [hW3, size_set]
      have hb3 : ∀ b, b < wr.heap.size → b ≠ R → W3.heap[b]? = wr.heap[b]? := fun b hb hbg => by
        rw [hW3, Below.heap_setCell w2 _ _ b hbg, hb2.block b (by omega)]; exact HB1.out b hbg
      have hT3 : TdR (f j) (f (j + 1)) W3 lv kv ts[j] := HT.out.same (fun b q1 q2 => hb3 b (by omega) (by omega))
      obtain ⟨m, gl, gk, rfl, rfl, t1, t2, t3, t4, t5, t6⟩ := hT3
      have hgk := (World.ownsRow.lt t6 gk rfl).2
      have y4 : w2.cell? ⟨R, j * 6 + 4, none⟩ = some (.slice (some ⟨gl, 0, none⟩) ts[j].lv.length ts[j].lv.length) := by rw [s2.cellAt _ (by omega), List.getElem?_set_ne (by omega), List.getElem?_set_ne (by omega), List.getElem?_set_ne (by omega)]; exact HX4.out
      have HCST : Hid (K + 4 + costLs ts[j].lv + ts[j].kids.length = k0 + costT (ts.take (j + 1))) := by show _ = _; rw [costT_snoc ts j hlt]; have := HK.out; omega
      have hKb : K + 4 + costLs ts[j].lv + ts[j].kids.length ≤ 50000000 := by have := HCST.out; have := costT_le ts (j + 1); omega
      have HML := hide (markLevelS_any (f j) m gl ts[j].lv.length ts[j].lv (K + 4) W3 t5 (by omega) HQ2.out q1 (by omega) (by omega))
      have HT6 := hide t6
      have HS3 := hide s3
      have HB3 := hide hb3
      have HCC := hide (((HC.out.trans HC1.out).trans (Chg.of (hi := hi) hb2 (by omega))).trans hC3)
      have hsw : wr.heap.size ≤ W3.heap.size := by omega
      clear s2 s3 hC3 hb3 hb2 HS1 HC1 HB1 HMT hs1 t5 t6 HT HX4
      obtain ⟨L, hL⟩ : ∃ L, L = costLs ts[j].lv := ⟨_, rfl⟩
      rw [← hL] at HML HCST hKb
      clear hL
      go_wp2_with fail
      rw [← hW3]
      clear hW3 y3 y3f y4
      have hKc : ((K + 3 : Nat) : Int) + 1 = ((K + 4 : Nat) : Int) := by omega
      first | rw [hKc] | (rw [show (K : Int) + 3 + 1 = ((K + 4 : Nat) : Int) by omega]) | (rw [show (K : Int) + 1 + 1 + 1 + 1 = ((K + 4 : Nat) : Int) by omega])
      clear hKc
      refine HML.out.mono ?_
      rintro e w4 ⟨rfl, hc4⟩
      have hs4 := hc4.1.size
      have s4 : w4.ownsRow lo 58 6 (.slice (some ⟨R, 0, none⟩) ts.length cap) ts.length _ := row_same HS3.out (fun g hg => hc4.out (by simp [Value.ownBlock] at hg; omega) (World.ownsRow.lt HS3.out g hg).2)
      have y5 : w4.cell? ⟨R, j * 6 + 5, none⟩ = some (.slice (some ⟨gk, 0, none⟩) ts[j].kids.length ts[j].kids.length) := by rw [s4.cellAt _ (by omega), List.getElem?_set_ne (by omega), List.getElem?_set_ne (by omega), List.getElem?_set_ne (by omega), List.getElem?_set_ne (by omega)]; exact HX5.out
      have k4 : KidRow m w4 (.slice (some ⟨gk, 0, none⟩) ts[j].kids.length ts[j].kids.length) ts[j].kids := row_same HT6.out (fun g hg => hc4.out (by simp [Value.ownBlock] at hg; omega) (World.ownsRow.lt HT6.out g hg).2)
      have HMI := hide (markIntS_any m _ ts[j].kids (K + 4 + L) w4 k4 q3 (by omega))
      have HS4 := hide s4
      have HB4 : Hid (∀ b, b < wr.heap.size → b ≠ R → (b < f j ∨ m ≤ b) → w4.heap[b]? = wr.heap[b]?) := fun b hb hbR hbm => (hc4.out hbm (by omega)).trans (HB3.out b hb hbR)
      have HC4 := hide (HCC.out.trans (hc4.mono (lo' := lo) (hi' := hi) (by omega) (by omega)))
      clear s4 k4 hc4 HB3 HS3 HCC HT6 HML HX5
      go_wp2_with fail
      refine HMI.out.mono ?_
      rintro e w5 ⟨rfl, hk5, hg5⟩
      have hg5' : w4.grownBy w5 (some gk) := hg5
      have HS5 := hide (World.ownsRow.kept HS4.out hg5' (.inr (by simp [Value.ownBlock]; omega)))
      have HC5 := hide (HC4.out.trans (Chg.grown (lo := lo) (hi := hi) hg5' (fun b hb => by have := Option.some.inj hb; omega) (by omega)))
      have HN5 : Hid (∀ i (h : i < ts.length), j + 1 ≤ i → TdC (f i) (f (i + 1)) w5 ((((xs.set (j * 6) (.int .i64 K)).set (j * 6 + 1) (.int .i64 ((K : Int) + 1))).set (j * 6 + 2) (.int .i64 ((K : Int) + 1 + 1))).set (j * 6 + 3) (.string (mt (K + 3)))) i ts[i]) := by
        show ∀ i, _
        intro i hi hji
        have m4 := mono_le HM.out (j + 1) i (by omega) (by omega)
        have m5 := mono_le HM.out (i + 1) ts.length (by omega) (Nat.le_refl _)
        obtain ⟨a0, a1, a2, a3, lv', kv', a4, a5, a6⟩ := HN.out i hi (by omega)
        have hs : ∀ o, o < 6 → ((((xs.set (j * 6) (.int .i64 K)).set (j * 6 + 1) (.int .i64 ((K : Int) + 1))).set (j * 6 + 2) (.int .i64 ((K : Int) + 1 + 1))).set (j * 6 + 3) (.string (mt (K + 3))))[i * 6 + o]? = xs[i * 6 + o]? := fun o ho => by
          rw [List.getElem?_set_ne (by omega), List.getElem?_set_ne (by omega), List.getElem?_set_ne (by omega), List.getElem?_set_ne (by omega)]
        refine ⟨(hs 0 (by omega)).trans a0, (hs 1 (by omega)).trans a1, (hs 2 (by omega)).trans a2, (hs 3 (by omega)).trans a3, lv', kv', (hs 4 (by omega)).trans a4, (hs 5 (by omega)).trans a5, a6.same (fun b b1 b2 => ?_)⟩
        rw [hg5'.block b (by omega) (fun e => by have := Option.some.inj e; omega)]
        exact HB4.out b (by omega) (by omega) (.inr (by omega))
      clear hk5 hg5 hg5' HB4 HMI HS4 HC4
      generalize ts[j].kids.length = kl at *
      go_wp2_with fail
      go_roundw
      case rel => exact ⟨j + 1, K + 4 + L + kl, _, by omega, by go_num, by go_num, HCST, HS5, HN5, HC5⟩
      case measure => simp [intOf]; omega
    · have hjn : j = ts.length := by omega
      subst hjn
      have HRR : Hid (K = k0 + costT ts) := by show _ = _; have := HK.out; rwa [List.take_length] at this
      go_wp2_with fail
      go_ret
      exact ⟨ret_int (by rw [HRR.out]), HC.out⟩
set_option maxRecDepth 20000 in
set_option maxHeartbeats 1000000 in
theorem markTerm_any (lo hi R cap : Nat) (ts : List Td) (k0 : Nat) (w : World) (h : TsR lo hi w R ts.length cap ts) (hhi : hi ≤ w.heap.size) (hsm : ∀ td ∈ ts, TSmall td) (hn : ts.length ≤ 1048576) (hk1 : 1 ≤ k0) (hk : k0 + costT ts ≤ 50000000) :
    Calls Tryz.prog 10 #[.agg #[.slice (some ⟨R, 0, none⟩) ts.length cap], .int .i64 k0] w fun e w' => e = .returned (.int .i64 ((k0 + costT ts : Nat) : Int)) ∧ Chg lo hi w w' := by
  have hlo : lo ≤ w.heap.size := by have := h.lt; omega
  have HC := hide (markNodeS_any lo hi R cap ts k0 (w.alloc (.cells #[.slice (some ⟨R, 0, none⟩) ts.length cap] 31)) (h.keep (bel_alloc (Below.refl _ _) _) hhi) (by simp; omega) hsm hn hk1 hk)
  clear h hsm
  go_enter Tryz.func10, Tryz.ntmps10
  go_wp2_with fail
  refine HC.out.mono ?_
  rintro e w2 ⟨rfl, hc2⟩
  have HC2 := hide ((Chg.of (hi := hi) (bel_alloc (Below.refl w.heap.size w) _) hlo).trans hc2)
  clear hc2
  go_wp2_with fail
  go_ret
  exact ⟨rfl, HC2.out⟩
end Go.Proofs.YtcagcfhnbphggaaGreatDoor

/- How many marks a term takes; a cell outside the marks' range. -/
namespace Go.Proofs.YtcagcfhnbphggaaGreatDoor
open Go.ChangeShapes Go.WideShapes Go.ChangeAt Go.RowKit

theorem Chg.cell {lo hi : Nat} {w w' : World} (h : Chg lo hi w w') {b o : Nat} {v : Value} (hb : b < lo ∨ hi ≤ b) (hc : w.cell? ⟨b, o, none⟩ = some v) : w'.cell? ⟨b, o, none⟩ = some v := by
  rw [World.cell?_of_block (w := w) (a := ⟨b, o, none⟩) (h.out hb (lt_cell hc))]; exact hc
theorem nsSum_mem {ns : List Nd} {nd : Nd} (h : nd ∈ ns) : ndSize nd ≤ nsSum ns := by
  induction ns with
  | nil => cases h
  | cons y l ih =>
    simp only [nsSum]
    rcases List.mem_cons.1 h with rfl | h2
    · omega
    · have := ih h2; omega
theorem tsmall_of {ts : List Td} (h : tmSize ts ≤ 1048576) : ∀ td ∈ ts, TSmall td := by
  intro td htd
  have h1 := sumL_mem tdSize htd
  unfold tmSize at h
  have h2 : tdSize td = td.s.size + (td.lv.length + sumL lvSize td.lv) + td.kids.length := rfl
  refine ⟨by omega, fun l hl => ?_, by omega⟩
  have h3 := sumL_mem lvSize hl
  have h4 : lvSize l = l.length + nsSum l := rfl
  refine ⟨by omega, fun nd hnd => ?_⟩
  have h5 := nsSum_mem hnd
  have h6 : ndSize nd = nd.s.size + nd.kids.length := rfl
  omega

theorem cost_sum (ns : List Nd) : costN ns ≤ 2 * ns.length + nsSum ns := by
  induction ns with
  | nil => simp [costN]
  | cons x a ih => simp only [costN, List.length_cons, nsSum, ndSize]; omega
theorem costLs_sum (ls : List (List Nd)) : costLs ls ≤ 2 * sumL lvSize ls := by
  induction ls with
  | nil => simp [costLs]
  | cons x a ih =>
    have := cost_sum x
    simp only [costLs, sumL, lvSize]
    omega
theorem costT_sum (ts : List Td) : costT ts ≤ 4 * (ts.length + sumL tdSize ts) := by
  induction ts with
  | nil => simp [costT]
  | cons x a ih =>
    have h1 := costLs_sum x.lv
    have h2 : tdSize x = x.s.size + (x.lv.length + sumL lvSize x.lv) + x.kids.length := rfl
    simp only [costT, sumL, List.length_cons]
    omega
end Go.Proofs.YtcagcfhnbphggaaGreatDoor
