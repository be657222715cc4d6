/- What markNodeS and markTerm answer: a term's marks are written within its own blocks. -/
import Derived.Test.YtjkkojefpecbfaaGreatMkT
import Derived.Test.YtjkkojefpecbfaaGreatFoA
namespace Go.Proofs.YtjkkojefpecbfaaGreat
open Go.ChangeShapes Go.WideShapes Go.ChangeAt Go.RowKit

/-- How many marks a list of nodes takes. -/
def costT : List Td → Nat
  | [] => 0
  | td :: ts => 4 + costLs td.lv + td.kids.length + costT ts
theorem costT_append (a b : List Td) : costT (a ++ b) = costT a + costT b := by
  induction a with
  | nil => simp [costT]
  | cons x a ih => simp [costT, ih]; omega
theorem costT_snoc (ts : List Td) (i : Nat) (h : i < ts.length) : costT (ts.take (i + 1)) = costT (ts.take i) + (4 + costLs ts[i].lv + ts[i].kids.length) := by
  rw [List.take_succ_eq_append_getElem h, costT_append]; simp [costT]
theorem costT_le (ts : List Td) (i : Nat) : costT (ts.take i) ≤ costT ts := by
  conv => rhs; rw [← List.take_append_drop i ts, costT_append]
  omega

set_option maxRecDepth 20000 in
set_option maxHeartbeats 4000000 in
theorem markNodeS_any (lo hi R cap : Nat) (ts : List Td) (k0 : Nat) (w : World) (h : TsR lo hi w R ts.length cap ts) (hhi : hi ≤ w.heap.size) (hsm : ∀ td ∈ ts, TSmall td) (hn : ts.length ≤ 1048576) (hk1 : 1 ≤ k0) (hk : k0 + costT ts ≤ 50000000) :
    Calls Tryz.prog 57 #[.slice (some ⟨R, 0, none⟩) ts.length cap, .int .i64 k0] w fun e w' => e = .returned (.int .i64 ((k0 + costT ts : Nat) : Int)) ∧ Chg lo hi w w' := by
  obtain ⟨hR1, hR2, hR3⟩ := h.lt
  obtain ⟨xs0, f, h1, h2, h3, h4, h5⟩ := h
  have HM := hide h3
  have HSM := hide hsm
  have H0 : Hid (∀ i (h : i < ts.length), 0 ≤ i → TdC (f i) (f (i + 1)) w xs0 i ts[i]) := fun i hi _ => h5 i hi
  have HR := hide h1
  clear h3 h5 hsm h1
  go_enter Tryz.func57, Tryz.ntmps57
  go_wp2_with fail
  go_loopw [1, 5] (fun m i wr => ∃ (j K : Nat) (xs : List Value), j ≤ ts.length ∧ i = .int .i64 j ∧ m = .int .i64 K ∧ Hid (K = k0 + costT (ts.take j)) ∧ Hid (wr.ownsRow lo 67 6 (.slice (some ⟨R, 0, none⟩) ts.length cap) ts.length xs) ∧ Hid (∀ i (h : i < ts.length), j ≤ i → TdC (f i) (f (i + 1)) wr xs i ts[i]) ∧ Hid (Chg lo hi w wr)) (fun _ i _ => ts.length - (intOf i).toNat)
  case atStart => exact ⟨0, k0, xs0, by omega, rfl, rfl, by show _ = _; simp [costT], HR, H0, Chg.refl _ _ _⟩
  case round =>
    obtain ⟨j, K, xs, hj, rfl, rfl, HK, HO, HN, HC⟩ := hrel
    clear H0 HR
    have hK1 : 1 ≤ K := by have := HK.out; omega
    have hK2 : K ≤ 50000000 := by have := HK.out; have := costT_le ts j; omega
    have hm0 := mono_le HM.out 0 ts.length (by omega) (Nat.le_refl _)
    by_cases hlt : j < ts.length
    · have hlt' : (j : Int) < ts.length := by omega
      obtain ⟨c0, c1, c2, c3, lv, kv, c4, c5, hT⟩ := HN.out j hlt (Nat.le_refl _)
      have m1 := mono_le HM.out 0 j (by omega) (by omega)
      have m2 := mono_le HM.out (j + 1) ts.length (by omega) (Nat.le_refl _)
      have m3 := HM.out j hlt
      have hsz := HC.out.1.size
      obtain ⟨q1, q2, q3⟩ := HSM.out ts[j] (List.getElem_mem hlt)
      have HQ2 := hide q2
      have hown := HO.out
      have hxl := hown.1
      have e0 := hown.cellAt (j * 6) (by omega)
      have e1 := hown.cellAt (j * 6 + 1) (by omega)
      have e2 := hown.cellAt (j * 6 + 2) (by omega)
      rw [c0] at e0
      rw [c1] at e1
      rw [c2] at e2
      have g0 := hown.frozenAt (j * 6)
      have g1 := hown.frozenAt (j * 6 + 1)
      have g2 := hown.frozenAt (j * 6 + 2)
      obtain ⟨W1, hW1⟩ : ∃ W1, W1 = ((wr.setCell ⟨R, j * 6, none⟩ (.int .i64 K)).setCell ⟨R, j * 6 + 1, none⟩ (.int .i64 ((K : Int) + 1))).setCell ⟨R, j * 6 + 2, none⟩ (.int .i64 ((K : Int) + 1 + 1)) := ⟨_, rfl⟩
      have s1 : W1.ownsRow lo 67 6 (.slice (some ⟨R, 0, none⟩) ts.length cap) ts.length (((xs.set (j * 6) (.int .i64 K)).set (j * 6 + 1) (.int .i64 ((K : Int) + 1))).set (j * 6 + 2) (.int .i64 ((K : Int) + 1 + 1))) := by
        rw [hW1]; exact ((((hown.stored (j * 6) (.int .i64 K)).1).stored (j * 6 + 1) (.int .i64 ((K : Int) + 1))).1.stored (j * 6 + 2) (.int .i64 ((K : Int) + 1 + 1))).1
      have hC1 : Chg lo hi wr W1 := by rw [hW1]; exact ((Chg.set wr (p := ⟨R, j * 6, none⟩) hR1 hR2 _).trans (Chg.set _ (p := ⟨R, j * 6 + 1, none⟩) hR1 hR2 _)).trans (Chg.set _ (p := ⟨R, j * 6 + 2, none⟩) hR1 hR2 _)
      have hs1 : W1.heap.size = wr.heap.size := by rw [hW1, size_set, size_set, size_set]
      have hb1 : ∀ b, b ≠ R → W1.heap[b]? = wr.heap[b]? := fun b hb => by rw [hW1, Below.heap_setCell _ _ _ b hb, Below.heap_setCell _ _ _ b hb, Below.heap_setCell _ _ _ b hb]
      have y3 : W1.cell? ⟨R, j * 6 + 3, none⟩ = some (.string ts[j].s) := by rw [s1.cellAt _ (by omega), List.getElem?_set_ne (by omega), List.getElem?_set_ne (by omega), List.getElem?_set_ne (by omega)]; exact c3
      have HMT := hide (markText_any (K + 3) W1 (by omega) (by omega))
      have HS1 := hide s1
      have HC1 := hide hC1
      have HB1 := hide hb1
      have HT := hide hT
      have HX4 := hide c4
      have HX5 := hide c5
      clear s1 hC1 hb1 hT c0 c1 c2 c3 c4 c5 q2 hown
      generalize ts[j].k = nk at *
      generalize ts[j].n = nn at *
      generalize ts[j].m = nm at *
      generalize ts[j].s = nss at *
      go_wp2_with fail
      rw [← hW1]
      clear hW1 e0 e1 e2 g0 g1 g2
      have hKc : (K : Int) + 1 + 1 + 1 = ((K + 3 : Nat) : Int) := by omega
      rw [hKc]
      clear hKc
      refine HMT.out.mono ?_
      rintro e w2 ⟨rfl, hb2⟩
      have hs2 := hb2.size
      have s2 := row_keep hb2 HS1.out
      have y3 := keep_cell hb2 y3
      have y3f := s2.frozenAt (j * 6 + 3)
      obtain ⟨W3, hW3⟩ : ∃ W3, W3 = w2.setCell ⟨R, j * 6 + 3, none⟩ (.string (mt (K + 3))) := ⟨_, rfl⟩
      have s3 : W3.ownsRow lo 67 6 (.slice (some ⟨R, 0, none⟩) ts.length cap) ts.length ((((xs.set (j * 6) (.int .i64 K)).set (j * 6 + 1) (.int .i64 ((K : Int) + 1))).set (j * 6 + 2) (.int .i64 ((K : Int) + 1 + 1))).set (j * 6 + 3) (.string (mt (K + 3)))) := by rw [hW3]; exact (s2.stored (j * 6 + 3) _).1
      have hC3 : Chg lo hi w2 W3 := by rw [hW3]; exact Chg.set w2 (p := ⟨R, j * 6 + 3, none⟩) hR1 hR2 _
      have hs3 : W3.heap.size = w2.heap.size := by rw [hW3, size_set]
      have hb3 : ∀ b, b < wr.heap.size → b ≠ R → W3.heap[b]? = wr.heap[b]? := fun b hb hbg => by
        rw [hW3, Below.heap_setCell w2 _ _ b hbg, hb2.block b (by omega)]; exact HB1.out b hbg
      have hT3 : TdR (f j) (f (j + 1)) W3 lv kv ts[j] := HT.out.same (fun b q1 q2 => hb3 b (by omega) (by omega))
      obtain ⟨m, gl, gk, rfl, rfl, t1, t2, t3, t4, t5, t6⟩ := hT3
      have hgk := (World.ownsRow.lt t6 gk rfl).2
      have y4 : w2.cell? ⟨R, j * 6 + 4, none⟩ = some (.slice (some ⟨gl, 0, none⟩) ts[j].lv.length ts[j].lv.length) := by rw [s2.cellAt _ (by omega), List.getElem?_set_ne (by omega), List.getElem?_set_ne (by omega), List.getElem?_set_ne (by omega)]; exact HX4.out
      have HCST : Hid (K + 4 + costLs ts[j].lv + ts[j].kids.length = k0 + costT (ts.take (j + 1))) := by show _ = _; rw [costT_snoc ts j hlt]; have := HK.out; omega
      have hKb : K + 4 + costLs ts[j].lv + ts[j].kids.length ≤ 50000000 := by have := HCST.out; have := costT_le ts (j + 1); omega
      have HML := hide (markLevelS_any (f j) m gl ts[j].lv.length ts[j].lv (K + 4) W3 t5 (by omega) HQ2.out q1 (by omega) (by omega))
      have HT6 := hide t6
      have HS3 := hide s3
      have HB3 := hide hb3
      have HCC := hide (((HC.out.trans HC1.out).trans (Chg.of (hi := hi) hb2 (by omega))).trans hC3)
      have hsw : wr.heap.size ≤ W3.heap.size := by omega
      clear s2 s3 hC3 hb3 hb2 HS1 HC1 HB1 HMT hs1 t5 t6 HT HX4
      obtain ⟨L, hL⟩ : ∃ L, L = costLs ts[j].lv := ⟨_, rfl⟩
      rw [← hL] at HML HCST hKb
      clear hL
      go_wp2_with fail
      rw [← hW3]
      clear hW3 y3 y3f y4
      have hKc : ((K + 3 : Nat) : Int) + 1 = ((K + 4 : Nat) : Int) := by omega
      first | rw [hKc] | (rw [show (K : Int) + 3 + 1 = ((K + 4 : Nat) : Int) by omega]) | (rw [show (K : Int) + 1 + 1 + 1 + 1 = ((K + 4 : Nat) : Int) by omega])
      clear hKc
      refine HML.out.mono ?_
      rintro e w4 ⟨rfl, hc4⟩
      have hs4 := hc4.1.size
      have s4 : w4.ownsRow lo 67 6 (.slice (some ⟨R, 0, none⟩) ts.length cap) ts.length _ := row_same HS3.out (fun g hg => hc4.out (by simp [Value.ownBlock] at hg; omega) (World.ownsRow.lt HS3.out g hg).2)
      have y5 : w4.cell? ⟨R, j * 6 + 5, none⟩ = some (.slice (some ⟨gk, 0, none⟩) ts[j].kids.length ts[j].kids.length) := by rw [s4.cellAt _ (by omega), List.getElem?_set_ne (by omega), List.getElem?_set_ne (by omega), List.getElem?_set_ne (by omega), List.getElem?_set_ne (by omega)]; exact HX5.out
      have k4 : KidRow m w4 (.slice (some ⟨gk, 0, none⟩) ts[j].kids.length ts[j].kids.length) ts[j].kids := row_same HT6.out (fun g hg => hc4.out (by simp [Value.ownBlock] at hg; omega) (World.ownsRow.lt HT6.out g hg).2)
      have HMI := hide (markIntS_any m _ ts[j].kids (K + 4 + L) w4 k4 q3 (by omega))
      have HS4 := hide s4
      have HB4 : Hid (∀ b, b < wr.heap.size → b ≠ R → (b < f j ∨ m ≤ b) → w4.heap[b]? = wr.heap[b]?) := fun b hb hbR hbm => (hc4.out hbm (by omega)).trans (HB3.out b hb hbR)
      have HC4 := hide (HCC.out.trans (hc4.mono (lo' := lo) (hi' := hi) (by omega) (by omega)))
      clear s4 k4 hc4 HB3 HS3 HCC HT6 HML HX5
      go_wp2_with fail
      refine HMI.out.mono ?_
      rintro e w5 ⟨rfl, hk5, hg5⟩
      have hg5' : w4.grownBy w5 (some gk) := hg5
      have HS5 := hide (World.ownsRow.kept HS4.out hg5' (.inr (by simp [Value.ownBlock]; omega)))
      have HC5 := hide (HC4.out.trans (Chg.grown (lo := lo) (hi := hi) hg5' (fun b hb => by have := Option.some.inj hb; omega) (by omega)))
      have HN5 : Hid (∀ i (h : i < ts.length), j + 1 ≤ i → TdC (f i) (f (i + 1)) w5 ((((xs.set (j * 6) (.int .i64 K)).set (j * 6 + 1) (.int .i64 ((K : Int) + 1))).set (j * 6 + 2) (.int .i64 ((K : Int) + 1 + 1))).set (j * 6 + 3) (.string (mt (K + 3)))) i ts[i]) := by
        show ∀ i, _
        intro i hi hji
        have m4 := mono_le HM.out (j + 1) i (by omega) (by omega)
        have m5 := mono_le HM.out (i + 1) ts.length (by omega) (Nat.le_refl _)
        obtain ⟨a0, a1, a2, a3, lv', kv', a4, a5, a6⟩ := HN.out i hi (by omega)
        have hs : ∀ o, o < 6 → ((((xs.set (j * 6) (.int .i64 K)).set (j * 6 + 1) (.int .i64 ((K : Int) + 1))).set (j * 6 + 2) (.int .i64 ((K : Int) + 1 + 1))).set (j * 6 + 3) (.string (mt (K + 3))))[i * 6 + o]? = xs[i * 6 + o]? := fun o ho => by
          rw [List.getElem?_set_ne (by omega), List.getElem?_set_ne (by omega), List.getElem?_set_ne (by omega), List.getElem?_set_ne (by omega)]
        refine ⟨(hs 0 (by omega)).trans a0, (hs 1 (by omega)).trans a1, (hs 2 (by omega)).trans a2, (hs 3 (by omega)).trans a3, lv', kv', (hs 4 (by omega)).trans a4, (hs 5 (by omega)).trans a5, a6.same (fun b b1 b2 => ?_)⟩
        rw [hg5'.block b (by omega) (fun e => by have := Option.some.inj e; omega)]
        exact HB4.out b (by omega) (by omega) (.inr (by omega))
      clear hk5 hg5 hg5' HB4 HMI HS4 HC4
      generalize ts[j].kids.length = kl at *
      go_wp2_with fail
      go_roundw
      case rel => exact ⟨j + 1, K + 4 + L + kl, _, by omega, by go_num, by go_num, HCST, HS5, HN5, HC5⟩
      case measure => simp [intOf]; omega
    · have hjn : j = ts.length := by omega
      subst hjn
      have HRR : Hid (K = k0 + costT ts) := by show _ = _; have := HK.out; rwa [List.take_length] at this
      go_wp2_with fail
      go_ret
      exact ⟨ret_int (by rw [HRR.out]), HC.out⟩
set_option maxRecDepth 20000 in
set_option maxHeartbeats 1000000 in
theorem markTerm_any (lo hi R cap : Nat) (ts : List Td) (k0 : Nat) (w : World) (h : TsR lo hi w R ts.length cap ts) (hhi : hi ≤ w.heap.size) (hsm : ∀ td ∈ ts, TSmall td) (hn : ts.length ≤ 1048576) (hk1 : 1 ≤ k0) (hk : k0 + costT ts ≤ 50000000) :
    Calls Tryz.prog 18 #[.agg #[.slice (some ⟨R, 0, none⟩) ts.length cap], .int .i64 k0] w fun e w' => e = .returned (.int .i64 ((k0 + costT ts : Nat) : Int)) ∧ Chg lo hi w w' := by
  have hlo : lo ≤ w.heap.size := by have := h.lt; omega
  have HC := hide (markNodeS_any lo hi R cap ts k0 (w.alloc (.cells #[.slice (some ⟨R, 0, none⟩) ts.length cap] 28)) (h.keep (bel_alloc (Below.refl _ _) _) hhi) (by simp; omega) hsm hn hk1 hk)
  clear h hsm
  go_enter Tryz.func18, Tryz.ntmps18
  go_wp2_with fail
  refine HC.out.mono ?_
  rintro e w2 ⟨rfl, hc2⟩
  have HC2 := hide ((Chg.of (hi := hi) (bel_alloc (Below.refl w.heap.size w) _) hlo).trans hc2)
  clear hc2
  go_wp2_with fail
  go_ret
  exact ⟨rfl, HC2.out⟩
end Go.Proofs.YtjkkojefpecbfaaGreat

/- How many marks a term takes; a cell outside the marks' range. -/
namespace Go.Proofs.YtjkkojefpecbfaaGreat
open Go.ChangeShapes Go.WideShapes Go.ChangeAt Go.RowKit

theorem Chg.cell {lo hi : Nat} {w w' : World} (h : Chg lo hi w w') {b o : Nat} {v : Value} (hb : b < lo ∨ hi ≤ b) (hc : w.cell? ⟨b, o, none⟩ = some v) : w'.cell? ⟨b, o, none⟩ = some v := by
  rw [World.cell?_of_block (w := w) (a := ⟨b, o, none⟩) (h.out hb (lt_cell hc))]; exact hc
theorem nsSum_mem {ns : List Nd} {nd : Nd} (h : nd ∈ ns) : ndSize nd ≤ nsSum ns := by
  induction ns with
  | nil => cases h
  | cons y l ih =>
    simp only [nsSum]
    rcases List.mem_cons.1 h with rfl | h2
    · omega
    · have := ih h2; omega
theorem tsmall_of {ts : List Td} (h : tmSize ts ≤ 1048576) : ∀ td ∈ ts, TSmall td := by
  intro td htd
  have h1 := sumL_mem tdSize htd
  unfold tmSize at h
  have h2 : tdSize td = td.s.size + (td.lv.length + sumL lvSize td.lv) + td.kids.length := rfl
  refine ⟨by omega, fun l hl => ?_, by omega⟩
  have h3 := sumL_mem lvSize hl
  have h4 : lvSize l = l.length + nsSum l := rfl
  refine ⟨by omega, fun nd hnd => ?_⟩
  have h5 := nsSum_mem hnd
  have h6 : ndSize nd = nd.s.size + nd.kids.length := rfl
  omega

theorem cost_sum (ns : List Nd) : costN ns ≤ 2 * ns.length + nsSum ns := by
  induction ns with
  | nil => simp [costN]
  | cons x a ih => simp only [costN, List.length_cons, nsSum, ndSize]; omega
theorem costLs_sum (ls : List (List Nd)) : costLs ls ≤ 2 * sumL lvSize ls := by
  induction ls with
  | nil => simp [costLs]
  | cons x a ih =>
    have := cost_sum x
    simp only [costLs, sumL, lvSize]
    omega
theorem costT_sum (ts : List Td) : costT ts ≤ 4 * (ts.length + sumL tdSize ts) := by
  induction ts with
  | nil => simp [costT]
  | cons x a ih =>
    have h1 := costLs_sum x.lv
    have h2 : tdSize x = x.s.size + (x.lv.length + sumL lvSize x.lv) + x.kids.length := rfl
    simp only [costT, sumL, List.length_cons]
    omega
end Go.Proofs.YtjkkojefpecbfaaGreat

/- Terms of the call's own: rows of levels and of nodes, what they lead to in ranges of blocks of their own. No program is walked here. -/
namespace Go.Proofs.YtjkkojefpecbfaaGreat
open Go.ChangeShapes Go.WideShapes Go.ChangeAt Go.RowKit

/-- Ranges of blocks, one behind the other. -/
def Rg (n lo hi : Nat) (s t : Nat → Nat) : Prop := (∀ i, i < n → lo ≤ s i ∧ s i ≤ t i ∧ t i ≤ hi) ∧ ∀ i j, i < j → j < n → t i ≤ s j
theorem Rg.mono {n lo hi lo' hi' : Nat} {s t : Nat → Nat} (h : Rg n lo hi s t) (h1 : lo' ≤ lo) (h2 : hi ≤ hi') : Rg n lo' hi' s t :=
  ⟨fun i hi => by have := h.1 i hi; omega, h.2⟩
def rput (f : Nat → Nat) (n x : Nat) : Nat → Nat := fun i => if i = n then x else f i
theorem rput_at (f : Nat → Nat) (n x : Nat) : rput f n x n = x := by simp [rput]
theorem rput_ne (f : Nat → Nat) {n i : Nat} (x : Nat) (h : i ≠ n) : rput f n x i = f i := by simp [rput, h]
theorem Rg.snoc {n lo hi hi' a b : Nat} {s t : Nat → Nat} (h : Rg n lo hi s t) (h1 : lo ≤ hi) (h2 : hi ≤ a) (h3 : a ≤ b) (h4 : b ≤ hi') : Rg (n + 1) lo hi' (rput s n a) (rput t n b) := by
  refine ⟨fun i hi => ?_, fun i j hij hj => ?_⟩
  · by_cases e : i = n
    · subst e; rw [rput_at, rput_at]; omega
    · rw [rput_ne s a e, rput_ne t b e]
      have := h.1 i (by omega)
      omega
  · have ei : i ≠ n := by omega
    rw [rput_ne t b ei]
    by_cases e : j = n
    · subst e; rw [rput_at]; have := h.1 i (by omega); omega
    · rw [rput_ne s a e]; exact h.2 i j hij (by omega)
/-- A row of levels, maybe none; each level within a range of blocks of its own. -/
def LsV (lo hi : Nat) (w : World) (v : Value) (ls : List (List Nd)) : Prop :=
  ∃ (xs : List Value) (s t : Nat → Nat), w.ownsRow lo 111 1 v ls.length xs ∧ Rg ls.length lo hi s t ∧ (∀ b, v.ownBlock = some b → b < hi ∧ ∀ i, i < ls.length → b < s i ∨ t i ≤ b) ∧ ∀ i (h : i < ls.length), ∃ u, xs[i]? = some u ∧ NdR (s i) (t i) w u ls[i]
theorem lsV_nil (lo hi : Nat) (w : World) : LsV lo hi w (.slice none 0 0) [] := ⟨[], fun _ => 0, fun _ => 0, World.ownsRow_nil _ _ _ _, ⟨fun i h => by simp at h, fun i j _ h => by simp at h⟩, fun b h => by simp [Value.ownBlock] at h, fun i h => by simp at h⟩
theorem LsV.same {lo hi : Nat} {w w' : World} {v : Value} {ls : List (List Nd)} (h : LsV lo hi w v ls) (hh : ∀ b, lo ≤ b → b < hi → w'.heap[b]? = w.heap[b]?) : LsV lo hi w' v ls := by
  obtain ⟨xs, s, t, h1, h2, h3, h4⟩ := h
  refine ⟨xs, s, t, row_same h1 (fun g hg => hh g (World.ownsRow.lt h1 g hg).1 (h3 g hg).1), h2, h3, fun i hi => ?_⟩
  obtain ⟨u, a, b⟩ := h4 i hi
  have := h2.1 i hi
  exact ⟨u, a, b.same (fun q q1 q2 => hh q (by omega) (by omega))⟩
theorem LsV.keep {lo hi : Nat} {w w' : World} {v : Value} {ls : List (List Nd)} (h : LsV lo hi w v ls) (hb : Below w.heap.size w w') (hl : hi ≤ w.heap.size) : LsV lo hi w' v ls :=
  h.same fun b _ h4 => hb.block b (by omega)
theorem LsV.levs {lo hi : Nat} {w : World} {v : Value} {ls : List (List Nd)} (h : LsV lo hi w v ls) : LevsAt w v ls := by
  obtain ⟨xs, s, t, h1, _, _, h4⟩ := h
  rcases h1.2 with ⟨h3, h0⟩ | ⟨g, cap, cur, h3, _⟩
  · exact ⟨none, 0, by rw [h3, h0], by omega, by unfold maxLen; omega, fun h => by omega⟩
  · subst h3
    obtain ⟨hc1, hc2⟩ := ownsRow_cap h1
    refine ⟨_, cap, rfl, hc1, hc2, fun _ => ⟨g, 0, rfl, fun i hi => ?_⟩⟩
    obtain ⟨u, a, b⟩ := h4 i hi
    exact ⟨u, by rw [Nat.zero_add, h1.cellAt i (by omega)]; exact a, b.nodes⟩
/-- What a node leads to: its levels within a range of blocks, its kids outside of it. -/
def TdV (lo hi : Nat) (w : World) (lv kv : Value) (td : Td) : Prop :=
  ∃ a c, lo ≤ a ∧ a ≤ c ∧ c ≤ hi ∧ LsV a c w lv td.lv ∧ KidRow lo w kv td.kids ∧ ∀ b, kv.ownBlock = some b → b < hi ∧ (b < a ∨ c ≤ b)
theorem TdV.same {lo hi : Nat} {w w' : World} {lv kv : Value} {td : Td} (h : TdV lo hi w lv kv td) (hh : ∀ b, lo ≤ b → b < hi → w'.heap[b]? = w.heap[b]?) : TdV lo hi w' lv kv td := by
  obtain ⟨a, c, h1, h2, h3, h4, h5, h6⟩ := h
  exact ⟨a, c, h1, h2, h3, h4.same (fun b q1 q2 => hh b (by omega) (by omega)), row_same h5 (fun g hg => hh g (World.ownsRow.lt h5 g hg).1 (h6 g hg).1), h6⟩
theorem TdV.mono {lo hi lo' hi' : Nat} {w : World} {lv kv : Value} {td : Td} (h : TdV lo hi w lv kv td) (h1 : lo' ≤ lo) (h2 : hi ≤ hi') : TdV lo' hi' w lv kv td := by
  obtain ⟨a, c, q1, q2, q3, q4, q5, q6⟩ := h
  exact ⟨a, c, by omega, q2, by omega, q4, q5.mono h1, fun b hb => by have := q6 b hb; omega⟩
/-- A node's cells in a row, and what it leads to. -/
def TdK (lo hi : Nat) (w : World) (xs : List Value) (i : Nat) (td : Td) : Prop :=
  xs[i * 6]? = some (.int .i64 td.k) ∧ xs[i * 6 + 1]? = some (.int .i64 td.n) ∧ xs[i * 6 + 2]? = some (.int .i64 td.m) ∧ xs[i * 6 + 3]? = some (.string td.s) ∧
    ∃ lv kv, xs[i * 6 + 4]? = some lv ∧ xs[i * 6 + 5]? = some kv ∧ TdV lo hi w lv kv td
theorem TdK.same {lo hi : Nat} {w w' : World} {xs : List Value} {i : Nat} {td : Td} (h : TdK lo hi w xs i td) (hh : ∀ b, lo ≤ b → b < hi → w'.heap[b]? = w.heap[b]?) : TdK lo hi w' xs i td := by
  obtain ⟨a, b, c, d, lv, kv, e, f, g⟩ := h
  exact ⟨a, b, c, d, lv, kv, e, f, g.same hh⟩
/-- A term of the call's own: a row of nodes, maybe none, what each leads to in a range of blocks of its own. -/
def TmV (lo hi : Nat) (w : World) (v : Value) (ts : List Td) : Prop :=
  ∃ (xs : List Value) (s t : Nat → Nat), w.ownsRow lo 67 6 v ts.length xs ∧ Rg ts.length lo hi s t ∧ (∀ b, v.ownBlock = some b → b < hi ∧ ∀ i, i < ts.length → b < s i ∨ t i ≤ b) ∧ ∀ i (h : i < ts.length), TdK (s i) (t i) w xs i ts[i]
theorem tmV_nil (lo hi : Nat) (w : World) : TmV lo hi w (.slice none 0 0) [] := ⟨[], fun _ => 0, fun _ => 0, World.ownsRow_nil _ _ _ _, ⟨fun i h => by simp at h, fun i j _ h => by simp at h⟩, fun b h => by simp [Value.ownBlock] at h, fun i h => by simp at h⟩
theorem TmV.same {lo hi : Nat} {w w' : World} {v : Value} {ts : List Td} (h : TmV lo hi w v ts) (hh : ∀ b, lo ≤ b → b < hi → w'.heap[b]? = w.heap[b]?) : TmV lo hi w' v ts := by
  obtain ⟨xs, s, t, h1, h2, h3, h4⟩ := h
  refine ⟨xs, s, t, row_same h1 (fun g hg => hh g (World.ownsRow.lt h1 g hg).1 (h3 g hg).1), h2, h3, fun i hi => ?_⟩
  have := h2.1 i hi
  exact (h4 i hi).same (fun q q1 q2 => hh q (by omega) (by omega))
theorem TmV.keep {lo hi : Nat} {w w' : World} {v : Value} {ts : List Td} (h : TmV lo hi w v ts) (hb : Below w.heap.size w w') (hl : hi ≤ w.heap.size) : TmV lo hi w' v ts :=
  h.same fun b _ h4 => hb.block b (by omega)
theorem TmV.mono {lo hi lo' hi' : Nat} {w : World} {v : Value} {ts : List Td} (h : TmV lo hi w v ts) (h1 : lo' ≤ lo) (h2 : hi ≤ hi') : TmV lo' hi' w v ts := by
  obtain ⟨xs, s, t, a, b, c, d⟩ := h
  exact ⟨xs, s, t, row_mono a h1, b.mono h1 h2, fun q hq => ⟨by have := (c q hq).1; omega, (c q hq).2⟩, d⟩
theorem TmV.form {lo hi : Nat} {w : World} {v : Value} {ts : List Td} (h : TmV lo hi w v ts) : ∃ a cap, v = .slice a ts.length cap := by
  obtain ⟨xs, s, t, h1, _⟩ := h; exact row_form h1
theorem TdV.parts {lo hi : Nat} {w : World} {lv kv : Value} {td : Td} (h : TdV lo hi w lv kv td) : LevsAt w lv td.lv ∧ IntsAt w kv td.kids := by
  obtain ⟨a, c, _, _, _, h4, h5, _⟩ := h
  exact ⟨h4.levs, h5.ints⟩
theorem TmV.nodes {lo hi : Nat} {w : World} {v : Value} {ts : List Td} (h : TmV lo hi w v ts) : TNodesAt w v ts := by
  obtain ⟨xs, s, t, h1, _, _, h4⟩ := h
  rcases h1.2 with ⟨h3, h0⟩ | ⟨g, cap, cur, h3, _⟩
  · exact ⟨none, 0, by rw [h3, h0], by omega, by unfold maxLen; omega, fun h => by omega⟩
  · subst h3
    obtain ⟨hc1, hc2⟩ := ownsRow_cap h1
    refine ⟨_, cap, rfl, hc1, hc2, fun _ => ⟨g, 0, rfl, fun i hi => ?_⟩⟩
    obtain ⟨a, b, c, d, lv, kv, e, f, hv⟩ := h4 i hi
    rw [Nat.zero_add]
    exact ⟨by rw [h1.cellAt _ (by omega)]; exact a, by rw [h1.cellAt _ (by omega)]; exact b, by rw [h1.cellAt _ (by omega)]; exact c, by rw [h1.cellAt _ (by omega)]; exact d, lv, by rw [h1.cellAt _ (by omega)]; exact e, hv.parts.1, kv, by rw [h1.cellAt _ (by omega)]; exact f, hv.parts.2⟩
/-- One level more behind a row of levels. -/
theorem LsV.snoc {lo : Nat} {w W w4 : World} {v u : Value} {g4 cap4 s0 : Nat} {ls : List (List Nd)} {l : List Nd} {xs : List Value} {s t : Nat → Nat} (hlo : lo ≤ w.heap.size) (hbw : Below w.heap.size w W) (h1 : w.ownsRow lo 111 1 v ls.length xs) (h2 : Rg ls.length lo w.heap.size s t) (h3 : ∀ b, v.ownBlock = some b → b < w.heap.size ∧ ∀ i, i < ls.length → b < s i ∨ t i ≤ b) (h4 : ∀ i (h : i < ls.length), ∃ u, xs[i]? = some u ∧ NdR (s i) (t i) w u ls[i])
    (hs0 : w.heap.size ≤ s0) (hu : NdR s0 W.heap.size W u l) (hs1 : s0 ≤ W.heap.size) (hg : W.grownBy w4 v.ownBlock) (hat : v.ownBlock = some g4 ∨ W.heap.size ≤ g4) (hlt : g4 < w4.heap.size) (h5 : w4.ownsRow lo 111 1 (.slice (some ⟨g4, 0, none⟩) (ls.length + 1) cap4) (ls.length + 1) (xs ++ [u])) : LsV lo w4.heap.size w4 (.slice (some ⟨g4, 0, none⟩) (ls.length + 1) cap4) (ls ++ [l]) := by
  have hl := h1.1
  have hsz := hbw.size
  have hsz4 := hg.size
  have hvb : ∀ b, v.ownBlock = some b → b < w.heap.size := fun b hb => (h3 b hb).1
  refine ⟨xs ++ [u], rput s ls.length s0, rput t ls.length W.heap.size, by simpa using h5, by simpa using h2.snoc hlo hs0 hs1 hsz4, fun b hb => ?_, fun i hi => ?_⟩
  · have e : b = g4 := by simp [Value.ownBlock] at hb; omega
    subst e
    refine ⟨hlt, fun i hi => ?_⟩
    by_cases e : i = ls.length
    · subst e
      rw [rput_at, rput_at]
      rcases hat with h | h
      · have := hvb b h; omega
      · omega
    · have hi' : i < ls.length := by simp at hi; omega
      rw [rput_ne s _ e, rput_ne t _ e]
      rcases hat with h | h
      · exact (h3 b h).2 i hi'
      · have := h2.1 i hi'; omega
  · by_cases e : i < ls.length
    · obtain ⟨u', a, b⟩ := h4 i e
      have hr := h2.1 i e
      rw [List.getElem_append_left e, rput_ne s _ (by omega), rput_ne t _ (by omega)]
      refine ⟨u', by rw [List.getElem?_append_left (by omega)]; exact a, b.same (fun q q1 q2 => ?_)⟩
      rw [hg.block q (by omega) (fun e2 => by have := (h3 q e2.symm).2 i e; omega)]
      exact hbw.block q (by omega)
    · have e2 : i = ls.length := by simp at hi; omega
      subst e2
      rw [List.getElem_append_right (Nat.le_refl _), rput_at, rput_at]
      simp only [Nat.sub_self, List.getElem_cons_zero]
      refine ⟨u, ?_, hu.same (fun q q1 q2 => hg.block q q2 (fun e2 => by have := hvb q e2.symm; omega))⟩
      rw [List.getElem?_append_right (by omega), hl, Nat.mul_one, Nat.sub_self]; rfl
end Go.Proofs.YtjkkojefpecbfaaGreat
