/- What eqTokenS, markTokenS and heldTokenS answer. -/
import Derived.Test.YtojpigabcahbbaaDoorMrb
import Derived.Test.YtojpigabcahbbaaDoorMkA
namespace Go.Proofs.YtojpigabcahbbaaDoor
open Go.ChangeShapes Go.WideShapes Go.ChangeAt Go.RowKit

theorem tkC_len (ts : List Tk) : (tkC ts).length = ts.length * 4 := by
  induction ts with
  | nil => rfl
  | cons x r ih =>
    have : tkC (x :: r) = [.int .i64 x.k, .string x.s, .int .i64 x.n, .int .i64 x.p] ++ tkC r := rfl
    rw [this, List.length_append, ih]
    simp only [List.length_cons, List.length_nil]
    omega
theorem tkC_get (ts : List Tk) : ∀ (j : Nat) (h : j < ts.length), (tkC ts)[j * 4]? = some (.int .i64 ts[j].k) ∧ (tkC ts)[j * 4 + 1]? = some (.string ts[j].s) ∧ (tkC ts)[j * 4 + 2]? = some (.int .i64 ts[j].n) ∧ (tkC ts)[j * 4 + 3]? = some (.int .i64 ts[j].p) := by
  induction ts with
  | nil => intro j h; simp at h
  | cons x r ih =>
    intro j h
    have hc : tkC (x :: r) = [.int .i64 x.k, .string x.s, .int .i64 x.n, .int .i64 x.p] ++ tkC r := rfl
    rw [hc]
    cases j with
    | zero => exact ⟨rfl, rfl, rfl, rfl⟩
    | succ j =>
      obtain ⟨h0, h1, h2, h3⟩ := ih j (by simp at h; omega)
      simp only [List.getElem_cons_succ]
      refine ⟨?_, ?_, ?_, ?_⟩
      · rw [List.getElem?_append_right (by simp only [List.length_cons, List.length_nil]; omega), ← h0]; congr 1; simp only [List.length_cons, List.length_nil]; omega
      · rw [List.getElem?_append_right (by simp only [List.length_cons, List.length_nil]; omega), ← h1]; congr 1; simp only [List.length_cons, List.length_nil]; omega
      · rw [List.getElem?_append_right (by simp only [List.length_cons, List.length_nil]; omega), ← h2]; congr 1; simp only [List.length_cons, List.length_nil]; omega
      · rw [List.getElem?_append_right (by simp only [List.length_cons, List.length_nil]; omega), ← h3]; congr 1; simp only [List.length_cons, List.length_nil]; omega
/-- The cells of a row of tokens. -/
def TokensAt (w : World) (v : Value) (ts : List Tk) : Prop :=
  ∃ a cap, v = .slice a ts.length cap ∧ (0 < ts.length → ∃ g, a = some ⟨g, 0, none⟩ ∧ ∀ j (h : j < ts.length), TkAt w g j (ts[j]))
where TkAt (w : World) (g j : Nat) (tk : Tk) : Prop := w.cell? ⟨g, j * 4, none⟩ = some (.int .i64 tk.k) ∧ w.cell? ⟨g, j * 4 + 1, none⟩ = some (.string tk.s) ∧ w.cell? ⟨g, j * 4 + 2, none⟩ = some (.int .i64 tk.n) ∧ w.cell? ⟨g, j * 4 + 3, none⟩ = some (.int .i64 tk.p)
theorem TkRow.at {base : Nat} {w : World} {v : Value} {ts : List Tk} (h : TkRow base w v ts) : TokensAt w v ts := by
  have h0 : w.ownsRow base 34 4 v ts.length (tkC ts) := h
  rcases h0.2 with ⟨rfl, h1⟩ | ⟨g, cap, cur, rfl, h4, h5, h6, h7, _⟩
  · exact ⟨none, 0, by rw [h1], fun h => by omega⟩
  · refine ⟨_, cap, rfl, fun _ => ⟨g, rfl, fun j hj => ?_⟩⟩
    obtain ⟨e0, e1, e2, e3⟩ := tkC_get ts j hj
    refine ⟨?_, ?_, ?_, ?_⟩
    · rw [World.ownsRow.cellAt h0 _ (by omega)]; exact e0
    · rw [World.ownsRow.cellAt h0 _ (by omega)]; exact e1
    · rw [World.ownsRow.cellAt h0 _ (by omega)]; exact e2
    · rw [World.ownsRow.cellAt h0 _ (by omega)]; exact e3
theorem TokensAt.keep {w w' : World} {v : Value} {ts : List Tk} (h : TokensAt w v ts) (hb : Below w.heap.size w w') : TokensAt w' v ts := by
  obtain ⟨a, cap, h1, h2⟩ := h
  refine ⟨a, cap, h1, fun h0 => ?_⟩
  obtain ⟨g, h3, h4⟩ := h2 h0
  refine ⟨g, h3, fun j hj => ?_⟩
  obtain ⟨e0, e1, e2, e3⟩ := h4 j hj
  exact ⟨keep_cell hb e0, keep_cell hb e1, keep_cell hb e2, keep_cell hb e3⟩
set_option maxHeartbeats 2000000 in
theorem eqToken_any (K N P : Int) (S : ByteArray) (w : World) :
    Calls Tryd.prog 18 #[.agg #[.int .i64 K, .string S, .int .i64 N, .int .i64 P], .agg #[.int .i64 K, .string S, .int .i64 N, .int .i64 P]] w fun e w' => e = .returned (.bool true) ∧ Below w.heap.size w w' := by
  go_enter Tryd.func18, Tryd.ntmps18
  go_wp2_with fail
  go_ret
  exact ⟨rfl, bel_alloc (bel_alloc (Below.refl _ _) _) _⟩
set_option maxRecDepth 20000 in
set_option maxHeartbeats 8000000 in
theorem eqTokenS_any (v1 v2 : Value) (ts : List Tk) (w : World) (h1 : TokensAt w v1 ts) (h2 : TokensAt w v2 ts) (hl : ts.length ≤ 20000) :
    Calls Tryd.prog 7 #[v1, v2] w fun e w' => e = .returned (.bool true) ∧ Below w.heap.size w w' := by
  have H1 := hide h1
  have H2 := hide h2
  obtain ⟨a1, cap1, rfl, hc1⟩ := h1
  obtain ⟨a2, cap2, rfl, hc2⟩ := h2
  clear hc1 hc2
  go_enter Tryd.func7, Tryd.ntmps7
  go_wp2_with fail
  go_loopw [5] (fun i wr => ∃ (k : Nat), k ≤ ts.length ∧ i = .int .i64 k ∧ Hid (Below w.heap.size w wr)) (fun i _ => ts.length - (intOf i).toNat)
  case atStart => exact ⟨0, by omega, rfl, Below.refl _ _⟩
  case round =>
    obtain ⟨k, hk, rfl, HB⟩ := hrel
    by_cases hlt : k < ts.length
    · obtain ⟨b1, z1, e1, c1⟩ := H1.out.keep HB.out
      obtain ⟨b2, z2, e2, c2⟩ := H2.out.keep HB.out
      simp only [Value.slice.injEq] at e1 e2
      obtain ⟨rfl, _, rfl⟩ := e1
      obtain ⟨rfl, _, rfl⟩ := e2
      obtain ⟨g1, rfl, d1⟩ := c1 (by omega)
      obtain ⟨g2, rfl, d2⟩ := c2 (by omega)
      obtain ⟨x0, x1, x2, x3⟩ := d1 k hlt
      obtain ⟨y0, y1, y2, y3⟩ := d2 k hlt
      have hlt' : (k : Int) < ts.length := by omega
      clear c1 c2 d1 d2
      generalize (ts[k].k : Int) = K at *
      generalize ts[k].s = S at *
      generalize (ts[k].n : Int) = N at *
      generalize (ts[k].p : Int) = P at *
      go_upto_region 6 with fail
      go_cut [26] from 11 to 26 (fun u wx => u = .bool false ∧ Hid (Below wr.heap.size wr wx))
      case first =>
        go_region_with (first | (go_at_call 18; refine (eqToken_any K N P S _).mono ?_; rintro e w2 ⟨rfl, hb2⟩; have HB2 := hide hb2; clear hb2) | fail)
        all_goals
          go_wp2_with fail
          go_meet
          exact ⟨rfl, by first | exact HB2.out | exact bel_trans ((Below.refl wr.heap.size wr).drew) HB2.out | exact (bel_trans ((Below.refl wr.heap.size wr).drew) HB2.out).drew⟩
      case rest =>
        obtain ⟨rfl, HX⟩ := hcut
        go_wp2_with fail
        go_roundw
        case rel => exact ⟨k + 1, by omega, by go_num, bel_trans HB.out HX.out⟩
        case measure => simp [intOf]; omega
    · have hlt' : ¬ (k : Int) < ts.length := by omega
      go_wp2_with fail
      go_ret
      exact ⟨rfl, HB.out⟩

/-- Marks of tokens from k on. -/
def mkTs (k n : Nat) : List Tk := (List.range n).map fun j => ⟨k + j * 4, mt (k + j * 4 + 1), k + j * 4 + 2, k + j * 4 + 3⟩
theorem mkTs_len (k n : Nat) : (mkTs k n).length = n := by simp [mkTs]
theorem mkTs_get (k n j : Nat) (h : j < n) : (mkTs k n)[j]'(by rw [mkTs_len]; exact h) = ⟨k + j * 4, mt (k + j * 4 + 1), k + j * 4 + 2, k + j * 4 + 3⟩ := by simp [mkTs]
/-- Cells by their numbers. -/
def cellM (k q : Nat) : Value := if q % 4 = 1 then .string (mt (k + q)) else .int .i64 ((k + q : Nat) : Int)
theorem mkC_get (k n q : Nat) (h : q < n * 4) : (tkC (mkTs k n))[q]? = some (cellM k q) := by
  have hj : q / 4 < (mkTs k n).length := by rw [mkTs_len]; omega
  have hj2 : q / 4 < n := by omega
  obtain ⟨h0, h1, h2, h3⟩ := tkC_get (mkTs k n) (q / 4) hj
  rw [mkTs_get k n _ hj2] at h0 h1 h2 h3
  unfold cellM
  rcases (show q % 4 = 0 ∨ q % 4 = 1 ∨ q % 4 = 2 ∨ q % 4 = 3 by omega) with e | e | e | e
  · have hq : q = q / 4 * 4 := by omega
    rw [if_neg (by omega)]
    conv => lhs; rw [hq]
    rw [h0]
    simp only [Option.some.injEq, Value.int.injEq, true_and]
    omega
  · have hq : q = q / 4 * 4 + 1 := by omega
    rw [if_pos e]
    conv => lhs; rw [hq]
    rw [h1]
    simp only [Option.some.injEq, Value.string.injEq]
    congr 1
    omega
  · have hq : q = q / 4 * 4 + 2 := by omega
    rw [if_neg (by omega)]
    conv => lhs; rw [hq]
    rw [h2]
    simp only [Option.some.injEq, Value.int.injEq, true_and]
    omega
  · have hq : q = q / 4 * 4 + 3 := by omega
    rw [if_neg (by omega)]
    conv => lhs; rw [hq]
    rw [h3]
    simp only [Option.some.injEq, Value.int.injEq, true_and]
    omega
theorem cellM0 (k j : Nat) : cellM k (j * 4) = .int .i64 ((k + j * 4 : Nat) : Int) := by unfold cellM; rw [if_neg (by omega)]
theorem cellM1 (k j : Nat) : cellM k (j * 4 + 1) = .string (mt (k + j * 4 + 1)) := by unfold cellM; rw [if_pos (by omega)]; rfl
theorem cellM2 (k j : Nat) : cellM k (j * 4 + 2) = .int .i64 ((k + j * 4 + 2 : Nat) : Int) := by unfold cellM; rw [if_neg (by omega)]; rfl
theorem cellM3 (k j : Nat) : cellM k (j * 4 + 3) = .int .i64 ((k + j * 4 + 3 : Nat) : Int) := by unfold cellM; rw [if_neg (by omega)]; rfl
/-- Four cells more are marked. -/
theorem marked_more {xs : List Value} {k j m : Nat} (hl : xs.length = m * 4) (hj : j < m) (h : ∀ q, q < j * 4 → xs[q]? = some (cellM k q)) :
    ∀ q, q < (j + 1) * 4 → ((((xs.set (j * 4) (cellM k (j * 4))).set (j * 4 + 1) (cellM k (j * 4 + 1))).set (j * 4 + 2) (cellM k (j * 4 + 2))).set (j * 4 + 3) (cellM k (j * 4 + 3)))[q]? = some (cellM k q) := by
  intro q hq
  rcases (show q < j * 4 ∨ q = j * 4 ∨ q = j * 4 + 1 ∨ q = j * 4 + 2 ∨ q = j * 4 + 3 by omega) with e | rfl | rfl | rfl | rfl
  · rw [List.getElem?_set_ne (by omega), List.getElem?_set_ne (by omega), List.getElem?_set_ne (by omega), List.getElem?_set_ne (by omega)]
    exact h q e
  · rw [List.getElem?_set_ne (by omega), List.getElem?_set_ne (by omega), List.getElem?_set_ne (by omega), List.getElem?_set_self (by omega)]
  · rw [List.getElem?_set_ne (by omega), List.getElem?_set_ne (by omega), List.getElem?_set_self (by rw [List.length_set]; omega)]
  · rw [List.getElem?_set_ne (by omega), List.getElem?_set_self (by rw [List.length_set, List.length_set]; omega)]
  · rw [List.getElem?_set_self (by rw [List.length_set, List.length_set, List.length_set]; omega)]
set_option maxRecDepth 20000 in
set_option maxHeartbeats 8000000 in
theorem markTokenS_any (lo : Nat) (v : Value) (ts : List Tk) (k : Nat) (w : World) (h : TkRow lo w v ts) (hl : ts.length ≤ 20000) (hk1 : 1 ≤ k) (hk : k ≤ 1000000) (hlo : lo ≤ w.heap.size) :
    Calls Tryd.prog 10 #[v, .int .i64 k] w fun e w' => e = .returned (.int .i64 ((k + ts.length * 4 : Nat) : Int)) ∧ TkRow lo w' v (mkTs k ts.length) ∧ Below lo w w' := by
  by_cases h0 : ts.length = 0
  · have hts : ts = [] := List.eq_nil_of_length_eq_zero h0
    subst hts
    have HH := hide (show TkRow lo w v (mkTs k ([] : List Tk).length) from h)
    obtain ⟨a, cap, rfl⟩ := row_form h
    clear h
    go_enter Tryd.func10, Tryd.ntmps10
    go_wp2_with fail
    go_loopw [1, 5] (fun m i wr => m = .int .i64 k ∧ i = .int .i64 0 ∧ w = wr) (fun _ _ _ => 0)
    case atStart => exact ⟨rfl, rfl, rfl⟩
    case round =>
      obtain ⟨rfl, rfl, rfl⟩ := hrel
      go_wp2_with fail
      go_ret
      exact ⟨by simp, HH.out, Below.refl _ _⟩
  · have h2 : w.ownsRow lo 34 4 v ts.length (tkC ts) := h
    obtain ⟨g, cap, hv⟩ : ∃ g cap, v = .slice (some ⟨g, 0, none⟩) ts.length cap := by
      rcases h2.2 with ⟨_, h1⟩ | ⟨g, cap, _, h1, _⟩
      · omega
      · exact ⟨g, cap, h1⟩
    subst hv
    have HO := hide h2
    have hglo : lo ≤ g := (h2.lt g rfl).1
    clear h h2
    obtain ⟨n, hn⟩ : ∃ n, n = ts.length := ⟨_, rfl⟩
    rw [← hn] at hl h0 HO ⊢
    have HN0 := hide hn
    clear hn
    go_enter Tryd.func10, Tryd.ntmps10
    go_wp2_with fail
    go_loopw [1, 5] (fun m i wr => ∃ (j : Nat) (xs : List Value), j ≤ n ∧ i = .int .i64 j ∧ m = .int .i64 ((k + j * 4 : Nat) : Int) ∧ Hid (wr.ownsRow lo 34 4 (.slice (some ⟨g, 0, none⟩) n cap) n xs) ∧ Hid (∀ q, q < j * 4 → xs[q]? = some (cellM k q)) ∧ Hid (Below lo w wr)) (fun _ i _ => n - (intOf i).toNat)
    case atStart => exact ⟨0, _, by omega, rfl, rfl, HO.out, fun q h => by omega, Below.refl _ _⟩
    case round =>
      obtain ⟨j, xs, hj, rfl, rfl, HR, HX, HB⟩ := hrel
      clear HO
      by_cases hlt : j < n
      · have hlt' : (j : Int) < n := by omega
        have hxl := HR.out.1
        have HXL := hide hxl
        have s0 := HR.out.stored (j * 4) (cellM k (j * 4))
        have HS0 := hide s0.1
        have ce0 := HR.out.cellAt (j * 4) (by omega)
        have fz0 := HR.out.frozenAt (j * 4)
        obtain ⟨u0, hu0⟩ : ∃ u, xs[j * 4]? = some u := ⟨xs[j * 4]'(by omega), by simp⟩
        rw [hu0] at ce0
        have HM := hide (marked_more hxl hlt HX.out)
        have HB1 := hide (HB.out.setCell (p := ⟨g, j * 4, none⟩) hglo (cellM k (j * 4)))
        obtain ⟨K, hK⟩ : ∃ K, K = k + j * 4 := ⟨_, rfl⟩
        have HKE := hide hK
        have hK2 : K ≤ 2000000 := by omega
        have hK1 : 1 ≤ K + 1 := by omega
        rw [cellM0, ← hK] at HS0 HB1
        rw [cellM0, cellM1, cellM2, cellM3, ← hK, show ((K + 2 : Nat) : Int) = (K : Int) + 2 by omega, show ((K + 3 : Nat) : Int) = (K : Int) + 3 by omega] at HM
        have HMT : ∀ W, Calls Tryd.prog 19 #[.int .i64 ((K : Int) + 1)] W fun e w' => e = .returned (.string (mt (K + 1))) ∧ Below W.heap.size W w' := fun W => markText_any (K + 1) W (by omega) (by omega)
        have HMT2 := hide HMT
        clear HMT
        rw [← hK]
        clear hu0 s0 hxl hK HX
        go_wp2_with (first
          | (go_at_call 19; refine (HMT2.out _).mono ?_; rintro e w2 ⟨rfl, hb2⟩
             have HR2 := hide (row_keep hb2 HS0.out)
             have HB2 := hide (HB1.out.trans (hb2.mono (by rw [size_set]; exact Nat.le_trans hlo HB.out.size)))
             have s1 := HR2.out.stored (j * 4 + 1) (.string (mt (K + 1)))
             have s2 := s1.1.stored (j * 4 + 2) (.int .i64 ((K : Int) + 2))
             have s3 := s2.1.stored (j * 4 + 3) (.int .i64 ((K : Int) + 3))
             have HS3 := hide s3.1
             have HB3 := hide (((HB2.out.setCell (p := ⟨g, j * 4 + 1, none⟩) hglo (.string (mt (K + 1)))).setCell (p := ⟨g, j * 4 + 2, none⟩) hglo (.int .i64 ((K : Int) + 2))).setCell (p := ⟨g, j * 4 + 3, none⟩) hglo (.int .i64 ((K : Int) + 3)))
             have ce1 := HR2.out.cellAt (j * 4 + 1) (by omega)
             have ce2 := HR2.out.cellAt (j * 4 + 2) (by omega)
             have ce3 := HR2.out.cellAt (j * 4 + 3) (by omega)
             have fz1 := HR2.out.frozenAt (j * 4 + 1)
             have fz2 := HR2.out.frozenAt (j * 4 + 2)
             have fz3 := HR2.out.frozenAt (j * 4 + 3)
             obtain ⟨u1, hu1⟩ : ∃ u, (xs.set (j * 4) (.int .i64 (K : Int)))[j * 4 + 1]? = some u := ⟨_, List.getElem?_eq_getElem (by rw [List.length_set]; have := HXL.out; omega)⟩
             obtain ⟨u2, hu2⟩ : ∃ u, (xs.set (j * 4) (.int .i64 (K : Int)))[j * 4 + 2]? = some u := ⟨_, List.getElem?_eq_getElem (by rw [List.length_set]; have := HXL.out; omega)⟩
             obtain ⟨u3, hu3⟩ : ∃ u, (xs.set (j * 4) (.int .i64 (K : Int)))[j * 4 + 3]? = some u := ⟨_, List.getElem?_eq_getElem (by rw [List.length_set]; have := HXL.out; omega)⟩
             rw [hu1] at ce1
             rw [hu2] at ce2
             rw [hu3] at ce3
             clear s1 s2 s3 hb2 hu1 hu2 hu3)
          | fail)

        go_roundw
        case rel => exact ⟨j + 1, _, by omega, by go_num, by have := HKE.out; rw [show k + (j + 1) * 4 = K + 4 by omega]; go_num, HS3.out, HM.out, HB3.out⟩
        case measure => simp [intOf]; omega
      · have hjn : j = n := by omega
        subst hjn
        have hxs : xs = tkC (mkTs k j) := by
          refine List.ext_getElem? fun q => ?_
          by_cases hq : q < j * 4
          · rw [HX.out q hq, mkC_get k j q hq]
          · have h1 := HR.out.1
            rw [List.getElem?_eq_none (by omega), List.getElem?_eq_none (by rw [tkC_len, mkTs_len]; omega)]
        have HK : Hid (TkRow lo wr (.slice (some ⟨g, 0, none⟩) j cap) (mkTs k j)) := by
          show World.ownsRow _ _ _ _ _ _ _
          rw [← hxs, mkTs_len]
          exact HR.out
        have hlt' : ¬ (j : Int) < j := by omega
        clear hxs HX
        go_wp2_with fail
        go_ret
        exact ⟨rfl, HK.out, HB.out⟩
end Go.Proofs.YtojpigabcahbbaaDoor
