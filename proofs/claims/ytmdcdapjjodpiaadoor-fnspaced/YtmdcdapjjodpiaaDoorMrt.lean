/- What eqTokenS answers. -/
import Derived.Test.YtmdcdapjjodpiaaDoorSpk
namespace Go.Proofs.YtmdcdapjjodpiaaDoor
open Go.ChangeShapes Go.WideShapes Go.ChangeAt Go.RowKit

theorem tkC_len (ts : List Tk) : (tkC ts).length = ts.length * 4 := by
  induction ts with
  | nil => rfl
  | cons x r ih =>
    have : tkC (x :: r) = [.int .i64 x.k, .string x.s, .int .i64 x.n, .int .i64 x.p] ++ tkC r := rfl
    rw [this, List.length_append, ih]
    simp only [List.length_cons, List.length_nil]
    omega
theorem tkC_get (ts : List Tk) : ∀ (j : Nat) (h : j < ts.length), (tkC ts)[j * 4]? = some (.int .i64 ts[j].k) ∧ (tkC ts)[j * 4 + 1]? = some (.string ts[j].s) ∧ (tkC ts)[j * 4 + 2]? = some (.int .i64 ts[j].n) ∧ (tkC ts)[j * 4 + 3]? = some (.int .i64 ts[j].p) := by
  induction ts with
  | nil => intro j h; simp at h
  | cons x r ih =>
    intro j h
    have hc : tkC (x :: r) = [.int .i64 x.k, .string x.s, .int .i64 x.n, .int .i64 x.p] ++ tkC r := rfl
    rw [hc]
    cases j with
    | zero => exact ⟨rfl, rfl, rfl, rfl⟩
    | succ j =>
      obtain ⟨h0, h1, h2, h3⟩ := ih j (by simp at h; omega)
      simp only [List.getElem_cons_succ]
      refine ⟨?_, ?_, ?_, ?_⟩
      · rw [List.getElem?_append_right (by simp only [List.length_cons, List.length_nil]; omega), ← h0]; congr 1; simp only [List.length_cons, List.length_nil]; omega
      · rw [List.getElem?_append_right (by simp only [List.length_cons, List.length_nil]; omega), ← h1]; congr 1; simp only [List.length_cons, List.length_nil]; omega
      · rw [List.getElem?_append_right (by simp only [List.length_cons, List.length_nil]; omega), ← h2]; congr 1; simp only [List.length_cons, List.length_nil]; omega
      · rw [List.getElem?_append_right (by simp only [List.length_cons, List.length_nil]; omega), ← h3]; congr 1; simp only [List.length_cons, List.length_nil]; omega
/-- The cells of a row of tokens. -/
def TokensAt (w : World) (v : Value) (ts : List Tk) : Prop :=
  ∃ a cap, v = .slice a ts.length cap ∧ (0 < ts.length → ∃ g, a = some ⟨g, 0, none⟩ ∧ ∀ j (h : j < ts.length), TkAt w g j (ts[j]))
where TkAt (w : World) (g j : Nat) (tk : Tk) : Prop := w.cell? ⟨g, j * 4, none⟩ = some (.int .i64 tk.k) ∧ w.cell? ⟨g, j * 4 + 1, none⟩ = some (.string tk.s) ∧ w.cell? ⟨g, j * 4 + 2, none⟩ = some (.int .i64 tk.n) ∧ w.cell? ⟨g, j * 4 + 3, none⟩ = some (.int .i64 tk.p)
theorem TkRow.at {base : Nat} {w : World} {v : Value} {ts : List Tk} (h : TkRow base w v ts) : TokensAt w v ts := by
  have h0 : w.ownsRow base 29 4 v ts.length (tkC ts) := h
  rcases h0.2 with ⟨rfl, h1⟩ | ⟨g, cap, cur, rfl, h4, h5, h6, h7, _⟩
  · exact ⟨none, 0, by rw [h1], fun h => by omega⟩
  · refine ⟨_, cap, rfl, fun _ => ⟨g, rfl, fun j hj => ?_⟩⟩
    obtain ⟨e0, e1, e2, e3⟩ := tkC_get ts j hj
    refine ⟨?_, ?_, ?_, ?_⟩
    · rw [World.ownsRow.cellAt h0 _ (by omega)]; exact e0
    · rw [World.ownsRow.cellAt h0 _ (by omega)]; exact e1
    · rw [World.ownsRow.cellAt h0 _ (by omega)]; exact e2
    · rw [World.ownsRow.cellAt h0 _ (by omega)]; exact e3
theorem TokensAt.keep {w w' : World} {v : Value} {ts : List Tk} (h : TokensAt w v ts) (hb : Below w.heap.size w w') : TokensAt w' v ts := by
  obtain ⟨a, cap, h1, h2⟩ := h
  refine ⟨a, cap, h1, fun h0 => ?_⟩
  obtain ⟨g, h3, h4⟩ := h2 h0
  refine ⟨g, h3, fun j hj => ?_⟩
  obtain ⟨e0, e1, e2, e3⟩ := h4 j hj
  exact ⟨keep_cell hb e0, keep_cell hb e1, keep_cell hb e2, keep_cell hb e3⟩
set_option maxHeartbeats 2000000 in
theorem eqToken_any (K N P : Int) (S : ByteArray) (w : World) :
    Calls Tryd.prog 18 #[.agg #[.int .i64 K, .string S, .int .i64 N, .int .i64 P], .agg #[.int .i64 K, .string S, .int .i64 N, .int .i64 P]] w fun e w' => e = .returned (.bool true) ∧ Below w.heap.size w w' := by
  go_enter Tryd.func18, Tryd.ntmps18
  go_wp2_with fail
  go_ret
  exact ⟨rfl, bel_alloc (bel_alloc (Below.refl _ _) _) _⟩
set_option maxRecDepth 20000 in
set_option maxHeartbeats 8000000 in
theorem eqTokenS_any (v1 v2 : Value) (ts : List Tk) (w : World) (h1 : TokensAt w v1 ts) (h2 : TokensAt w v2 ts) (hl : ts.length ≤ 20000) :
    Calls Tryd.prog 7 #[v1, v2] w fun e w' => e = .returned (.bool true) ∧ Below w.heap.size w w' := by
  have H1 := hide h1
  have H2 := hide h2
  obtain ⟨a1, cap1, rfl, hc1⟩ := h1
  obtain ⟨a2, cap2, rfl, hc2⟩ := h2
  clear hc1 hc2
  go_enter Tryd.func7, Tryd.ntmps7
  go_wp2_with fail
  go_loopw [5] (fun i wr => ∃ (k : Nat), k ≤ ts.length ∧ i = .int .i64 k ∧ Hid (Below w.heap.size w wr)) (fun i _ => ts.length - (intOf i).toNat)
  case atStart => exact ⟨0, by omega, rfl, Below.refl _ _⟩
  case round =>
    obtain ⟨k, hk, rfl, HB⟩ := hrel
    by_cases hlt : k < ts.length
    · obtain ⟨b1, z1, e1, c1⟩ := H1.out.keep HB.out
      obtain ⟨b2, z2, e2, c2⟩ := H2.out.keep HB.out
      simp only [Value.slice.injEq] at e1 e2
      obtain ⟨rfl, _, rfl⟩ := e1
      obtain ⟨rfl, _, rfl⟩ := e2
      obtain ⟨g1, rfl, d1⟩ := c1 (by omega)
      obtain ⟨g2, rfl, d2⟩ := c2 (by omega)
      obtain ⟨x0, x1, x2, x3⟩ := d1 k hlt
      obtain ⟨y0, y1, y2, y3⟩ := d2 k hlt
      have hlt' : (k : Int) < ts.length := by omega
      clear c1 c2 d1 d2
      generalize (ts[k].k : Int) = K at *
      generalize ts[k].s = S at *
      generalize (ts[k].n : Int) = N at *
      generalize (ts[k].p : Int) = P at *
      go_upto_region 6 with fail
      go_cut [26] from 11 to 26 (fun u wx => u = .bool false ∧ Hid (Below wr.heap.size wr wx))
      case first =>
        go_region_with (first | (go_at_call 18; refine (eqToken_any K N P S _).mono ?_; rintro e w2 ⟨rfl, hb2⟩; have HB2 := hide hb2; clear hb2) | fail)
        all_goals
          go_wp2_with fail
          go_meet
          exact ⟨rfl, by first | exact HB2.out | exact bel_trans ((Below.refl wr.heap.size wr).drew) HB2.out | exact (bel_trans ((Below.refl wr.heap.size wr).drew) HB2.out).drew⟩
      case rest =>
        obtain ⟨rfl, HX⟩ := hcut
        go_wp2_with fail
        go_roundw
        case rel => exact ⟨k + 1, by omega, by go_num, bel_trans HB.out HX.out⟩
        case measure => simp [intOf]; omega
    · have hlt' : ¬ (k : Int) < ts.length := by omega
      go_wp2_with fail
      go_ret
      exact ⟨rfl, HB.out⟩
end Go.Proofs.YtmdcdapjjodpiaaDoor
