/- What markLevelS and markTerm answer at terms of the call's own: the marks are all there. -/
import Derived.Test.YtjkkojefpecbfaaGreatTeA
namespace Go.Proofs.YtjkkojefpecbfaaGreat
open Go.ChangeShapes Go.WideShapes Go.ChangeAt Go.RowKit

/-- Marked levels. -/
def markLs (k : Nat) : List (List Nd) → List (List Nd)
  | [] => []
  | l :: ls => markN k l :: markLs (k + costN l) ls
theorem markLs_len : ∀ (ls : List (List Nd)) (k : Nat), (markLs k ls).length = ls.length
  | [], _ => rfl
  | l :: ls, k => by simp [markLs, markLs_len ls]
theorem markLs_get : ∀ (ls : List (List Nd)) (k i : Nat) (h : i < ls.length), (markLs k ls)[i]? = some (markN (k + costLs (ls.take i)) ls[i])
  | [], _, _, h => by simp at h
  | l :: ls, k, 0, _ => by simp [markLs, costLs]
  | l :: ls, k, i + 1, h => by
    have := markLs_get ls (k + costN l) i (by simpa using h)
    simp only [markLs, List.getElem?_cons_succ, List.take_succ_cons, costLs, List.getElem_cons_succ]
    rw [this, Nat.add_assoc]
/-- A marked node. -/
def markTd (K : Nat) (td : Td) : Td := ⟨(K : Int), (K : Int) + 1, (K : Int) + 1 + 1, mt (K + 3), markLs (K + 4) td.lv, nums (K + 4 + costLs td.lv) td.kids.length⟩
def markT (k : Nat) : List Td → List Td
  | [] => []
  | td :: ts => markTd k td :: markT (k + (4 + costLs td.lv + td.kids.length)) ts
theorem markT_len : ∀ (ts : List Td) (k : Nat), (markT k ts).length = ts.length
  | [], _ => rfl
  | l :: ls, k => by simp [markT, markT_len ls]
theorem markT_get : ∀ (ts : List Td) (k i : Nat) (h : i < ts.length), (markT k ts)[i]? = some (markTd (k + costT (ts.take i)) ts[i])
  | [], _, _, h => by simp at h
  | l :: ls, k, 0, _ => by simp [markT, costT]
  | l :: ls, k, i + 1, h => by
    have := markT_get ls (k + (4 + costLs l.lv + l.kids.length)) i (by simpa using h)
    simp only [markT, List.getElem?_cons_succ, List.take_succ_cons, costT, List.getElem_cons_succ]
    rw [this, Nat.add_assoc]
theorem own_some {w : World} {base : Nat} {e : TypeId} {s n cap : Nat} {a : Option Addr} {xs : List Value} (h : w.ownsRow base e s (.slice a n cap) n xs) (hn : 0 < n) : ∃ R, a = some ⟨R, 0, none⟩ := by
  rcases h.2 with ⟨h1, h0⟩ | ⟨g, cap', cur, h1, _⟩
  · omega
  · injection h1 with h2 _ _
    exact ⟨g, h2⟩

set_option maxRecDepth 20000 in
set_option maxHeartbeats 4000000 in
theorem markLevelS_V (lo hi : Nat) (v : Value) (ls : List (List Nd)) (k0 : Nat) (w : World) (h : LsV lo hi w v ls) (hhi : hi ≤ w.heap.size) (hkl : ∀ l ∈ ls, l.length ≤ 1048576 ∧ ∀ nd ∈ l, nd.kids.length ≤ 1048576) (hn : ls.length ≤ 1048576) (hk1 : 1 ≤ k0) (hk : k0 + costLs ls ≤ 50000000) :
    Calls Tryz.prog 39 #[v, .int .i64 k0] w fun e w' => e = .returned (.int .i64 ((k0 + costLs ls : Nat) : Int)) ∧ LsV lo hi w' v (markLs k0 ls) ∧ Chg lo hi w w' := by
  obtain ⟨xs, s, t, h1, h2, h3, h5⟩ := h
  obtain ⟨a, cap, rfl⟩ := row_form h1
  have HRG := hide h2
  have HOB := hide h3
  have HKL := hide hkl
  have H0 : Hid (∀ i (h : i < ls.length), ∃ u, xs[i]? = some u ∧ NdR (s i) (t i) w u (if i < 0 then markN (k0 + costLs (ls.take i)) ls[i] else ls[i])) := fun i hi => by
    simpa using h5 i hi
  have HR := hide h1
  clear h2 h3 h5 hkl h1
  go_enter Tryz.func39, Tryz.ntmps39
  go_wp2_with fail
  go_loopw [1, 5] (fun m i wr => ∃ (j K : Nat), j ≤ ls.length ∧ i = .int .i64 j ∧ m = .int .i64 K ∧ Hid (K = k0 + costLs (ls.take j)) ∧ Hid (wr.ownsRow lo 111 1 (.slice a ls.length cap) ls.length xs) ∧ Hid (∀ i (h : i < ls.length), ∃ u, xs[i]? = some u ∧ NdR (s i) (t i) wr u (if i < j then markN (k0 + costLs (ls.take i)) ls[i] else ls[i])) ∧ Hid (Chg lo hi w wr)) (fun _ i _ => ls.length - (intOf i).toNat)
  case atStart => exact ⟨0, k0, by omega, rfl, rfl, by show _ = _; simp [costLs], HR, H0, Chg.refl _ _ _⟩
  case round =>
    obtain ⟨j, K, hj, rfl, rfl, HK, HRJ, HN, HC⟩ := hrel
    clear H0 HR
    have hK1 : 1 ≤ K := by have := HK.out; omega
    have hK2 : K ≤ 50000000 := by have := HK.out; have := costLs_le ls j; omega
    by_cases hlt : j < ls.length
    · have hlt' : (j : Int) < ls.length := by omega
      obtain ⟨R, rfl⟩ := own_some HRJ.out (by omega)
      obtain ⟨v, hv, hnd⟩ := HN.out j hlt
      rw [if_neg (by omega)] at hnd
      obtain ⟨r1, r2, r3⟩ := HRG.out.1 j hlt
      have hsz := HC.out.1.size
      have hxl := HRJ.out.1
      have c1 := HRJ.out.cellAt j (by omega)
      rw [hv] at c1
      obtain ⟨hl1, hl2⟩ := HKL.out ls[j] (List.getElem_mem hlt)
      have HCST : Hid (K + costN ls[j] = k0 + costLs (ls.take (j + 1))) := by show _ = _; rw [costLs_snoc ls j hlt]; have := HK.out; omega
      have HCALL := hide (markLNodeS_any (s j) (t j) v ls[j] K wr hnd (by omega) hl2 hK1 (by have := HCST.out; have := costLs_le ls (j + 1); omega) hl1)
      obtain ⟨va, vc, hvf⟩ := hnd.form
      subst hvf
      clear hnd hl2
      go_wp2_with fail
      refine HCALL.out.mono ?_
      rintro e w2 ⟨rfl, hn2, hc2⟩
      have HRJ2 : Hid (w2.ownsRow lo 111 1 (.slice (some ⟨R, 0, none⟩) ls.length cap) ls.length xs) := row_same HRJ.out (fun g hg => hc2.out ((HOB.out g hg).2 j hlt) (World.ownsRow.lt HRJ.out g hg).2)
      have HN2 : Hid (∀ i (h : i < ls.length), ∃ u, xs[i]? = some u ∧ NdR (s i) (t i) w2 u (if i < j + 1 then markN (k0 + costLs (ls.take i)) ls[i] else ls[i])) := by
        show ∀ i, _
        intro i hi
        by_cases e : i = j
        · subst e
          rw [if_pos (by omega), ← HK.out]
          exact ⟨_, hv, hn2⟩
        · obtain ⟨u, q1, q2⟩ := HN.out i hi
          refine ⟨u, q1, ?_⟩
          have e2 : (if i < j + 1 then markN (k0 + costLs (ls.take i)) ls[i] else ls[i]) = (if i < j then markN (k0 + costLs (ls.take i)) ls[i] else ls[i]) := by
            by_cases h : i < j
            · rw [if_pos h, if_pos (by omega)]
            · rw [if_neg h, if_neg (by omega)]
          rw [e2]
          obtain ⟨p1, p2, p3⟩ := HRG.out.1 i hi
          refine q2.out hc2 ?_ (by omega)
          by_cases e3 : i < j
          · have := HRG.out.2 i j e3 hlt; omega
          · have := HRG.out.2 j i (by omega) hi; omega
      have HC2 := hide (HC.out.trans (hc2.mono (lo' := lo) (hi' := hi) r1 r3))
      clear hn2 hc2 HCALL
      generalize costN ls[j] = cj at *
      go_wp2_with fail
      go_roundw
      case rel => exact ⟨j + 1, K + cj, by omega, by go_num, rfl, HCST, HRJ2, HN2, HC2⟩
      case measure => simp [intOf]; omega
    · have hjn : j = ls.length := by omega
      subst hjn
      have HRR : Hid (K = k0 + costLs ls) := by show _ = _; have := HK.out; rwa [List.take_length] at this
      have HE : Hid (LsV lo hi wr (.slice a ls.length cap) (markLs k0 ls)) := by
        show LsV _ _ _ _ _
        have hml := markLs_len ls k0
        refine ⟨xs, s, t, by rw [hml]; exact HRJ.out, by rw [hml]; exact HRG.out, by rw [hml]; exact HOB.out, fun i hi => ?_⟩
        have hi' : i < ls.length := by omega
        obtain ⟨u, q1, q2⟩ := HN.out i hi'
        rw [if_pos hi'] at q2
        have e := markLs_get ls k0 i hi'
        rw [List.getElem?_eq_getElem hi] at e
        rw [Option.some.inj e]
        exact ⟨u, q1, q2⟩
      go_wp2_with fail
      go_ret
      exact ⟨ret_int (by rw [HRR.out]), HE.out, HC.out⟩

set_option maxRecDepth 20000 in
set_option maxHeartbeats 8000000 in
theorem markNodeS_V (lo hi : Nat) (v : Value) (ts : List Td) (k0 : Nat) (w : World) (h : TmV lo hi w v ts) (hhi : hi ≤ w.heap.size) (hsm : ∀ td ∈ ts, TSmall td) (hn : ts.length ≤ 1048576) (hk1 : 1 ≤ k0) (hk : k0 + costT ts ≤ 50000000) :
    Calls Tryz.prog 57 #[v, .int .i64 k0] w fun e w' => e = .returned (.int .i64 ((k0 + costT ts : Nat) : Int)) ∧ TmV lo hi w' v (markT k0 ts) ∧ Chg lo hi w w' := by
  obtain ⟨xs0, s, t, h1, h2, h3, h5⟩ := h
  obtain ⟨a, cap, rfl⟩ := row_form h1
  have HRG := hide h2
  have HOB := hide h3
  have HSM := hide hsm
  have H0 : Hid (∀ i (h : i < ts.length), TdK (s i) (t i) w xs0 i (if i < 0 then markTd (k0 + costT (ts.take i)) ts[i] else ts[i])) := fun i hi => by
    simpa using h5 i hi
  have HR := hide h1
  clear h2 h3 h5 hsm h1
  go_enter Tryz.func57, Tryz.ntmps57
  go_wp2_with fail
  go_loopw [1, 5] (fun m i wr => ∃ (j K : Nat) (xs : List Value), j ≤ ts.length ∧ i = .int .i64 j ∧ m = .int .i64 K ∧ Hid (K = k0 + costT (ts.take j)) ∧ Hid (wr.ownsRow lo 67 6 (.slice a ts.length cap) ts.length xs) ∧ Hid (∀ i (h : i < ts.length), TdK (s i) (t i) wr xs i (if i < j then markTd (k0 + costT (ts.take i)) ts[i] else ts[i])) ∧ Hid (Chg lo hi w wr)) (fun _ i _ => ts.length - (intOf i).toNat)
  case atStart => exact ⟨0, k0, xs0, by omega, rfl, rfl, by show _ = _; simp [costT], HR, H0, Chg.refl _ _ _⟩
  case round =>
    obtain ⟨j, K, xs, hj, rfl, rfl, HK, HO, HN, HC⟩ := hrel
    clear H0 HR
    have hK1 : 1 ≤ K := by have := HK.out; omega
    have hK2 : K ≤ 50000000 := by have := HK.out; have := costT_le ts j; omega
    by_cases hlt : j < ts.length
    · have hlt' : (j : Int) < ts.length := by omega
      obtain ⟨R, rfl⟩ := own_some HO.out (by omega)
      have hNj := HN.out j hlt
      rw [if_neg (by omega)] at hNj
      obtain ⟨c0, c1, c2, c3, lv, kv, c4, c5, hT⟩ := hNj
      obtain ⟨r1, r2, r3⟩ := HRG.out.1 j hlt
      obtain ⟨hRhi, hRout⟩ := HOB.out R rfl
      have hRlo := (World.ownsRow.lt HO.out R rfl).1
      have hRj := hRout j hlt
      have HRO := hide hRout
      have hsz := HC.out.1.size
      obtain ⟨q1, q2, q3⟩ := HSM.out ts[j] (List.getElem_mem hlt)
      have HQ2 := hide q2
      have hown := HO.out
      have hxl := hown.1
      have e0 := hown.cellAt (j * 6) (by omega)
      have e1 := hown.cellAt (j * 6 + 1) (by omega)
      have e2 := hown.cellAt (j * 6 + 2) (by omega)
      rw [c0] at e0
      rw [c1] at e1
      rw [c2] at e2
      have g0 := hown.frozenAt (j * 6)
      have g1 := hown.frozenAt (j * 6 + 1)
      have g2 := hown.frozenAt (j * 6 + 2)
      obtain ⟨W1, hW1⟩ : ∃ W1, W1 = ((wr.setCell ⟨R, j * 6, none⟩ (.int .i64 K)).setCell ⟨R, j * 6 + 1, none⟩ (.int .i64 ((K : Int) + 1))).setCell ⟨R, j * 6 + 2, none⟩ (.int .i64 ((K : Int) + 1 + 1)) := ⟨_, rfl⟩
      have s1 : W1.ownsRow lo 67 6 (.slice (some ⟨R, 0, none⟩) ts.length cap) ts.length (((xs.set (j * 6) (.int .i64 K)).set (j * 6 + 1) (.int .i64 ((K : Int) + 1))).set (j * 6 + 2) (.int .i64 ((K : Int) + 1 + 1))) := by
        rw [hW1]; exact ((((hown.stored (j * 6) (.int .i64 K)).1).stored (j * 6 + 1) (.int .i64 ((K : Int) + 1))).1.stored (j * 6 + 2) (.int .i64 ((K : Int) + 1 + 1))).1
      have hC1 : Chg lo hi wr W1 := by rw [hW1]; exact ((Chg.set wr (p := ⟨R, j * 6, none⟩) hRlo hRhi _).trans (Chg.set _ (p := ⟨R, j * 6 + 1, none⟩) hRlo hRhi _)).trans (Chg.set _ (p := ⟨R, j * 6 + 2, none⟩) hRlo hRhi _)
      have hs1 : W1.heap.size = wr.heap.size := by rw [hW1, size_set, size_set, size_set]
      have hb1 : ∀ b, b ≠ R → W1.heap[b]? = wr.heap[b]? := fun b hb => by rw [hW1, Below.heap_setCell _ _ _ b hb, Below.heap_setCell _ _ _ b hb, Below.heap_setCell _ _ _ b hb]
      have y3 : W1.cell? ⟨R, j * 6 + 3, none⟩ = some (.string ts[j].s) := by rw [s1.cellAt _ (by omega), List.getElem?_set_ne (by omega), List.getElem?_set_ne (by omega), List.getElem?_set_ne (by omega)]; exact c3
      have HMT := hide (markText_any (K + 3) W1 (by omega) (by omega))
      have HS1 := hide s1
      have HC1 := hide hC1
      have HB1 := hide hb1
      have HT := hide hT
      have HX4 := hide c4
      have HX4' := hide c4
      have HX5 := hide c5
      clear s1 hC1 hb1 hT c0 c1 c2 c3 c4 c5 q2 hown hRout
      generalize ts[j].k = nk at *
      generalize ts[j].n = nn at *
      generalize ts[j].m = nm at *
      generalize ts[j].s = nss at *
      go_wp2_with fail
      rw [← hW1]
      clear hW1 e0 e1 e2 g0 g1 g2
      have hKc : (K : Int) + 1 + 1 + 1 = ((K + 3 : Nat) : Int) := by omega
      rw [hKc]
      clear hKc
      refine HMT.out.mono ?_
      rintro e w2 ⟨rfl, hb2⟩
      have hs2 := hb2.size
      have s2 := row_keep hb2 HS1.out
      have y3 := keep_cell hb2 y3
      have y3f := s2.frozenAt (j * 6 + 3)
      obtain ⟨W3, hW3⟩ : ∃ W3, W3 = w2.setCell ⟨R, j * 6 + 3, none⟩ (.string (mt (K + 3))) := ⟨_, rfl⟩
      obtain ⟨ys, hys⟩ : ∃ ys, ys = ((((xs.set (j * 6) (.int .i64 K)).set (j * 6 + 1) (.int .i64 ((K : Int) + 1))).set (j * 6 + 2) (.int .i64 ((K : Int) + 1 + 1))).set (j * 6 + 3) (.string (mt (K + 3)))) := ⟨_, rfl⟩
      have s3 : W3.ownsRow lo 67 6 (.slice (some ⟨R, 0, none⟩) ts.length cap) ts.length ys := by rw [hW3, hys]; exact (s2.stored (j * 6 + 3) _).1
      have hC3 : Chg lo hi w2 W3 := by rw [hW3]; exact Chg.set w2 (p := ⟨R, j * 6 + 3, none⟩) hRlo hRhi _
      have hs3 : W3.heap.size = w2.heap.size := by rw [hW3, size_set]
      have hb3 : ∀ b, b < wr.heap.size → b ≠ R → W3.heap[b]? = wr.heap[b]? := fun b hb hbg => by
        rw [hW3, Below.heap_setCell w2 _ _ b hbg, hb2.block b (by omega)]; exact HB1.out b hbg
      have hT3 : TdV (s j) (t j) W3 lv kv ts[j] := HT.out.same (fun b q1 q2 => hb3 b (by omega) (by omega))
      obtain ⟨a1, c1, t1, t2, t3, t4, t5, t6⟩ := hT3
      have y4 : w2.cell? ⟨R, j * 6 + 4, none⟩ = some lv := by rw [s2.cellAt _ (by omega), List.getElem?_set_ne (by omega), List.getElem?_set_ne (by omega), List.getElem?_set_ne (by omega)]; exact HX4.out
      have HCST : Hid (K + 4 + costLs ts[j].lv + ts[j].kids.length = k0 + costT (ts.take (j + 1))) := by show _ = _; rw [costT_snoc ts j hlt]; have := HK.out; omega
      have hKb : K + 4 + costLs ts[j].lv + ts[j].kids.length ≤ 50000000 := by have := HCST.out; have := costT_le ts (j + 1); omega
      have HML := hide (markLevelS_V a1 c1 lv ts[j].lv (K + 4) W3 t4 (by omega) HQ2.out q1 (by omega) (by omega))
      have hlvf : ∃ la lc, lv = .slice la ts[j].lv.length lc := by obtain ⟨zs, _, _, h1, _⟩ := t4; exact row_form h1
      obtain ⟨la, lc, rfl⟩ := hlvf
      obtain ⟨ka, kc, rfl⟩ := row_form t5
      have HT5 := hide t5
      have HT6 := hide t6
      have HS3 := hide s3
      have HB3 := hide hb3
      have HCC := hide (((HC.out.trans HC1.out).trans (Chg.of (hi := hi) hb2 (by omega))).trans hC3)
      have hsw : wr.heap.size ≤ W3.heap.size := by omega
      have HYS := hide hys
      clear s2 s3 hC3 hb3 hb2 HS1 HC1 HB1 HMT hs1 t4 t5 t6 HT HX4 hys
      obtain ⟨L, hL⟩ : ∃ L, L = costLs ts[j].lv := ⟨_, rfl⟩
      rw [← hL] at HML HCST hKb
      have HLL := hide hL
      clear hL
      go_wp2_with fail
      rw [← hW3]
      clear hW3 y3 y3f y4
      have hKc : ((K + 3 : Nat) : Int) + 1 = ((K + 4 : Nat) : Int) := by omega
      first | rw [hKc] | (rw [show (K : Int) + 3 + 1 = ((K + 4 : Nat) : Int) by omega]) | (rw [show (K : Int) + 1 + 1 + 1 + 1 = ((K + 4 : Nat) : Int) by omega])
      clear hKc
      refine HML.out.mono ?_
      rintro e w4 ⟨rfl, hv4, hc4⟩
      have hs4 := hc4.1.size
      have s4 : w4.ownsRow lo 67 6 (.slice (some ⟨R, 0, none⟩) ts.length cap) ts.length ys := row_same HS3.out (fun g hg => hc4.out (by simp [Value.ownBlock] at hg; omega) (World.ownsRow.lt HS3.out g hg).2)
      have y5 : w4.cell? ⟨R, j * 6 + 5, none⟩ = some (.slice ka ts[j].kids.length kc) := by rw [s4.cellAt _ (by omega), HYS.out, List.getElem?_set_ne (by omega), List.getElem?_set_ne (by omega), List.getElem?_set_ne (by omega), List.getElem?_set_ne (by omega)]; exact HX5.out
      have k4 : KidRow (s j) w4 (.slice ka ts[j].kids.length kc) ts[j].kids := row_same HT5.out (fun g hg => hc4.out (HT6.out g hg).2 (World.ownsRow.lt HT5.out g hg).2)
      have HMI := hide (markIntS_any (s j) _ ts[j].kids (K + 4 + L) w4 k4 q3 (by omega))
      have HS4 := hide s4
      have HV4 := hide hv4
      have HB4 : Hid (∀ b, b < wr.heap.size → b ≠ R → (b < a1 ∨ c1 ≤ b) → w4.heap[b]? = wr.heap[b]?) := fun b hb hbR hbm => (hc4.out hbm (by omega)).trans (HB3.out b hb hbR)
      have HC4 := hide (HCC.out.trans (hc4.mono (lo' := lo) (hi' := hi) (by omega) (by omega)))
      clear s4 k4 hc4 HB3 HS3 HCC HML hv4
      go_wp2_with fail
      refine HMI.out.mono ?_
      rintro e w5 ⟨rfl, hk5, hg5⟩
      have hko : ∀ b, (Value.slice ka ts[j].kids.length kc).ownBlock = some b → s j ≤ b ∧ b < t j ∧ (b < a1 ∨ c1 ≤ b) ∧ b < W3.heap.size := fun b hb => ⟨(World.ownsRow.lt HT5.out b hb).1, (HT6.out b hb).1, (HT6.out b hb).2, (World.ownsRow.lt HT5.out b hb).2⟩
      have HS5 : Hid (w5.ownsRow lo 67 6 (.slice (some ⟨R, 0, none⟩) ts.length cap) ts.length ys) := row_same HS4.out (fun g hg => hg5.block g (World.ownsRow.lt HS4.out g hg).2 (fun e => by
        have := hko g e.symm
        simp [Value.ownBlock] at hg
        omega))
      have HC5 := hide (HC4.out.trans (Chg.grown (lo := lo) (hi := hi) hg5 (fun b hb => by have := hko b hb; omega) (by omega)))
      have HN5 : Hid (∀ i (h : i < ts.length), TdK (s i) (t i) w5 ys i (if i < j + 1 then markTd (k0 + costT (ts.take i)) ts[i] else ts[i])) := by
        show ∀ i, _
        intro i hi
        by_cases e : i = j
        · subst e
          rw [if_pos (by omega), ← HK.out]
          have hy : ∀ o, ys[i * 6 + o]? = ((((xs.set (i * 6) (.int .i64 K)).set (i * 6 + 1) (.int .i64 ((K : Int) + 1))).set (i * 6 + 2) (.int .i64 ((K : Int) + 1 + 1))).set (i * 6 + 3) (.string (mt (K + 3))))[i * 6 + o]? := fun o => by rw [HYS.out]
          refine ⟨?_, ?_, ?_, ?_, .slice la ts[i].lv.length lc, .slice ka ts[i].kids.length kc, ?_, ?_, ?_⟩
          · have := hy 0; rw [Nat.add_zero] at this; rw [this, List.getElem?_set_ne (by omega), List.getElem?_set_ne (by omega), List.getElem?_set_ne (by omega), List.getElem?_set_self (by omega)]; rfl
          · rw [hy 1, List.getElem?_set_ne (by omega), List.getElem?_set_ne (by omega), List.getElem?_set_self (by simp; omega)]; rfl
          · rw [hy 2, List.getElem?_set_ne (by omega), List.getElem?_set_self (by simp; omega)]; rfl
          · rw [hy 3, List.getElem?_set_self (by simp; omega)]; rfl
          · rw [hy 4, List.getElem?_set_ne (by omega), List.getElem?_set_ne (by omega), List.getElem?_set_ne (by omega), List.getElem?_set_ne (by omega)]; exact HX4'.out
          · rw [hy 5, List.getElem?_set_ne (by omega), List.getElem?_set_ne (by omega), List.getElem?_set_ne (by omega), List.getElem?_set_ne (by omega)]; exact HX5.out
          · refine ⟨a1, c1, t1, t2, t3, ?_, ?_, fun b hb => ⟨(hko b hb).2.1, (hko b hb).2.2.1⟩⟩
            · exact HV4.out.same (fun b p1 p2 => hg5.block b (by omega) (fun e => by have := hko b e.symm; omega))
            · show KidRow _ _ _ (nums (K + 4 + costLs ts[i].lv) ts[i].kids.length)
              rw [← HLL.out]
              exact hk5
        · have e2 : (if i < j + 1 then markTd (k0 + costT (ts.take i)) ts[i] else ts[i]) = (if i < j then markTd (k0 + costT (ts.take i)) ts[i] else ts[i]) := by
            by_cases h : i < j
            · rw [if_pos h, if_pos (by omega)]
            · rw [if_neg h, if_neg (by omega)]
          rw [e2]
          have hNi := HN.out i hi
          generalize (if i < j then markTd (k0 + costT (ts.take i)) ts[i] else ts[i]) = tdi at *
          obtain ⟨b0, b1, b2, b3, lv', kv', b4, b5, b6⟩ := hNi
          obtain ⟨p1, p2, p3⟩ := HRG.out.1 i hi
          have hdis : t i ≤ s j ∨ t j ≤ s i := by
            by_cases e3 : i < j
            · exact .inl (HRG.out.2 i j e3 hlt)
            · exact .inr (HRG.out.2 j i (by omega) hi)
          have hRi := HRO.out i hi
          have hs : ∀ o, o < 6 → ys[i * 6 + o]? = xs[i * 6 + o]? := fun o ho => by
            rw [HYS.out, List.getElem?_set_ne (by omega), List.getElem?_set_ne (by omega), List.getElem?_set_ne (by omega), List.getElem?_set_ne (by omega)]
          refine ⟨(hs 0 (by omega)).trans b0, (hs 1 (by omega)).trans b1, (hs 2 (by omega)).trans b2, (hs 3 (by omega)).trans b3, lv', kv', (hs 4 (by omega)).trans b4, (hs 5 (by omega)).trans b5, b6.same (fun b m1 m2 => ?_)⟩
          rw [hg5.block b (by omega) (fun e => by have := hko b e.symm; omega)]
          exact HB4.out b (by omega) (by omega) (by omega)
      clear hk5 hg5 HB4 HMI HS4 HC4 hko HV4
      generalize ts[j].kids.length = kl at *
      go_wp2_with fail
      go_roundw
      case rel => exact ⟨j + 1, K + 4 + L + kl, ys, by omega, by go_num, by go_num, HCST, HS5, HN5, HC5⟩
      case measure => simp [intOf]; omega
    · have hjn : j = ts.length := by omega
      subst hjn
      have HRR : Hid (K = k0 + costT ts) := by show _ = _; have := HK.out; rwa [List.take_length] at this
      have HE : Hid (TmV lo hi wr (.slice a ts.length cap) (markT k0 ts)) := by
        show TmV _ _ _ _ _
        have hml := markT_len ts k0
        refine ⟨xs, s, t, by rw [hml]; exact HO.out, by rw [hml]; exact HRG.out, by rw [hml]; exact HOB.out, fun i hi => ?_⟩
        have hi' : i < ts.length := by omega
        have q2 := HN.out i hi'
        rw [if_pos hi'] at q2
        have e := markT_get ts k0 i hi'
        rw [List.getElem?_eq_getElem hi] at e
        rw [Option.some.inj e]
        exact q2
      go_wp2_with fail
      go_ret
      exact ⟨ret_int (by rw [HRR.out]), HE.out, HC.out⟩
set_option maxHeartbeats 1000000 in
theorem markTerm_V (lo hi : Nat) (v : Value) (ts : List Td) (k0 : Nat) (w : World) (h : TmV lo hi w v ts) (hhi : hi ≤ w.heap.size) (hlo : lo ≤ w.heap.size) (hsm : ∀ td ∈ ts, TSmall td) (hn : ts.length ≤ 1048576) (hk1 : 1 ≤ k0) (hk : k0 + costT ts ≤ 50000000) :
    Calls Tryz.prog 18 #[.agg #[v], .int .i64 k0] w fun e w' => e = .returned (.int .i64 ((k0 + costT ts : Nat) : Int)) ∧ TmV lo hi w' v (markT k0 ts) ∧ Chg lo hi w w' := by
  have HC := hide (markNodeS_V lo hi v ts k0 (w.alloc (.cells #[v] 28)) (h.keep (bel_alloc (Below.refl _ _) _) hhi) (by simp; omega) hsm hn hk1 hk)
  obtain ⟨a, cap, rfl⟩ := h.form
  clear h hsm
  go_enter Tryz.func18, Tryz.ntmps18
  go_wp2_with fail
  refine HC.out.mono ?_
  rintro e w2 ⟨rfl, hv2, hc2⟩
  have HC2 := hide ((Chg.of (hi := hi) (bel_alloc (Below.refl w.heap.size w) _) hlo).trans hc2)
  have HV2 := hide hv2
  clear hc2 hv2
  go_wp2_with fail
  go_ret
  exact ⟨rfl, HV2.out, HC2.out⟩
end Go.Proofs.YtjkkojefpecbfaaGreat
