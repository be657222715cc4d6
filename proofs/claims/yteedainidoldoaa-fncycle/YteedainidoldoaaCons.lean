/- What the copying and comparing of rows (constraints, numbers) answers: a new row with the same triples; equal rows compare as equal. -/
import Derived.Test.YteedainidoldoaaMem
namespace Go.Proofs.Yteedainidoldoaa
open Go.ChangeShapes Go.WideShapes Go.ChangeAt Go.RowKit

/-- The first k triples stand in the row. -/
def ConsIn (xs : List Value) (cs : List Cn) (k : Nat) : Prop :=
  ∀ i (h : i < cs.length), i < k → xs[i * 3]? = some (.int .i64 cs[i].a) ∧ xs[i * 3 + 1]? = some (.int .i64 cs[i].n) ∧ xs[i * 3 + 2]? = some (.int .i64 cs[i].b)
theorem ConsIn.put {xs : List Value} {cs : List Cn} {k : Nat} (hx : xs.length = cs.length * 3) (h : ConsIn xs cs k) (hk : k < cs.length) :
    ConsIn (((xs.set (k * 3) (.int .i64 cs[k].a)).set (k * 3 + 1) (.int .i64 cs[k].n)).set (k * 3 + 2) (.int .i64 cs[k].b)) cs (k + 1) := by
  intro i hi hik
  by_cases e : i = k
  · subst e
    refine ⟨?_, ?_, ?_⟩
    · rw [List.getElem?_set_ne (by omega), List.getElem?_set_ne (by omega), List.getElem?_set_self (by omega)]
    · rw [List.getElem?_set_ne (by omega), List.getElem?_set_self (by simp; omega)]
    · rw [List.getElem?_set_self (by simp; omega)]
  · obtain ⟨h1, h2, h3⟩ := h i hi (by omega)
    refine ⟨?_, ?_, ?_⟩
    · rw [List.getElem?_set_ne (by omega), List.getElem?_set_ne (by omega), List.getElem?_set_ne (by omega)]; exact h1
    · rw [List.getElem?_set_ne (by omega), List.getElem?_set_ne (by omega), List.getElem?_set_ne (by omega)]; exact h2
    · rw [List.getElem?_set_ne (by omega), List.getElem?_set_ne (by omega), List.getElem?_set_ne (by omega)]; exact h3
theorem ConsIn.all {w : World} {base R n cap : Nat} {e : TypeId} {xs : List Value} {cs : List Cn} (h : w.ownsRow base e 3 (.slice (some ⟨R, 0, none⟩) n cap) n xs) (hn : n = cs.length) (hx : ConsIn xs cs cs.length) :
    ConsAt w (.slice (some ⟨R, 0, none⟩) n cap) cs := by
  subst hn
  rcases h.2 with ⟨h', _⟩ | ⟨g', cap', cur, h', _, hg, hnc, hcm, hcs, htake⟩
  · simp at h'
  · simp only [Value.slice.injEq, Option.some.injEq, Addr.mk.injEq, and_true, true_and] at h'
    obtain ⟨rfl, rfl⟩ := h'
    refine ⟨_, _, rfl, hnc, hcm, fun _ => ⟨R, 0, rfl, fun i hi => ?_⟩⟩
    obtain ⟨h1, h2, h3⟩ := hx i hi hi
    rw [Nat.zero_add]
    exact ⟨by rw [h.cellAt _ (by omega)]; exact h1, by rw [h.cellAt _ (by omega)]; exact h2, by rw [h.cellAt _ (by omega)]; exact h3⟩

set_option maxHeartbeats 1000000 in
theorem toConsS_own (v : Value) (cs : List Cn) (w : World) (hn : ConsAt w v cs) (hl : cs.length ≤ 1048576) :
    Calls Try.prog 8 #[v] w fun e w' => ∃ xs, e = .returned (.slice (some ⟨w.heap.size, 0, none⟩) cs.length cs.length) ∧ w'.ownsRow w.heap.size 42 3 (.slice (some ⟨w.heap.size, 0, none⟩) cs.length cs.length) cs.length xs ∧ ConsIn xs cs cs.length ∧ Below w.heap.size w w' := by
  obtain ⟨i0, hi, hz0, hz1, hz2⟩ := info_parts Try.info42
  obtain ⟨a, cap, rfl, hlc, hcm, hc⟩ := hn
  have HC : Hid (0 < cs.length → ∃ b off, a = some ⟨b, off, none⟩ ∧ ∀ i (h : i < cs.length), ConAt w b (off + i * 3) cs[i]) := hc
  clear hc
  go_enter Try.func8, Try.ntmps8
  go_wp2_with (at_make; refine wpList_make_full _ rfl _ _ 27 rfl w.heap.size 42 i0 (.agg #[.int .i64 0, .int .i64 0, .int .i64 0]) 3 Try.underlying27 hi hz0 hz1 .i64 .i64 _ _ cs.length rfl rfl rfl rfl (by rw [hz2]; omega) (by unfold maxLen; omega) (Nat.le_refl _) ?_; intro w1 hown hgrow)
  go_loopw [4] (fun i wr => ∃ (k : Nat) (xs : List Value), k ≤ cs.length ∧ i = .int .i64 k ∧ wr.ownsRow w.heap.size 42 3 (.slice (some ⟨w.heap.size, 0, none⟩) cs.length cs.length) cs.length xs ∧ Hid (ConsIn xs cs k) ∧ w.heap.size < wr.heap.size ∧ Below w.heap.size w wr) (fun i _ => cs.length - (intOf i).toNat)
  case atStart => exact ⟨0, _, by omega, rfl, hown, fun j _ h => by omega, (hown.lt _ rfl).2, (Below.refl _ _).grown hgrow (Nat.le_refl _) (fun k hk => by cases hk)⟩
  case round =>
    obtain ⟨k, xs, hk, rfl, hownr, HX, hsz, hbel⟩ := hrel
    clear hown hgrow
    by_cases hlt : k < cs.length
    · obtain ⟨b, off, ha, hc⟩ := HC.out (by omega)
      subst ha
      obtain ⟨c1, c2, c3⟩ := hc k hlt
      have c1' := hbel.cell (p := ⟨b, off + k * 3, none⟩) (lt_cell c1)
      have c2' := hbel.cell (p := ⟨b, off + k * 3 + 1, none⟩) (lt_cell c2)
      have c3' := hbel.cell (p := ⟨b, off + k * 3 + 2, none⟩) (lt_cell c3)
      rw [c1] at c1'
      rw [c2] at c2'
      rw [c3] at c3'
      clear hc c1 c2 c3
      go_wp2_with fail
      refine (toCons_any cs[k] _).mono ?_
      rintro e w2 ⟨rfl, hb⟩
      have hown2 := row_keep hb hownr
      have hbel2 : Below w.heap.size w w2 := hbel.trans (hb.mono hbel.size)
      have hxl := hown2.1
      have HP := hide (HX.out.put hxl hlt)
      have s1 := (hown2.stored (k * 3) (.int .i64 cs[k].a)).1
      have s2 := (s1.stored (k * 3 + 1) (.int .i64 cs[k].n)).1
      have s3 := (s2.stored (k * 3 + 2) (.int .i64 cs[k].b)).1
      have f1 := hown2.frozenAt (k * 3)
      have f2 := hown2.frozenAt (k * 3 + 1)
      have f3 := hown2.frozenAt (k * 3 + 2)
      have e1 := hown2.cellAt (k * 3) (by omega)
      have e2 := hown2.cellAt (k * 3 + 1) (by omega)
      have e3 := hown2.cellAt (k * 3 + 2) (by omega)
      rw [List.getElem?_eq_getElem (by omega)] at e1 e2 e3
      have hsz2 : w.heap.size < w2.heap.size := by have := hb.size; omega
      clear HX hown2 hownr s1 s2 hb c1' c2' c3'
      go_wp2_with fail
      go_roundw
      case rel => exact ⟨k + 1, _, by omega, by go_num, s3, HP, by simpa [World.setCell] using hsz2, ((hbel2.setCell (p := ⟨_, _, _⟩) (Nat.le_refl _) _).setCell (p := ⟨_, _, _⟩) (Nat.le_refl _) _).setCell (p := ⟨_, _, _⟩) (Nat.le_refl _) _⟩
      case measure => simp [intOf]; omega
    · have HX2 : Hid (ConsIn xs cs cs.length) := by have := HX.out; rwa [show k = cs.length from by omega] at this
      clear HX
      have HO := hide hownr
      clear hownr
      go_wp2_with fail
      go_ret
      exact ⟨_, rfl, HO.out, HX2.out, hbel⟩

theorem toConsS_any (v : Value) (cs : List Cn) (w : World) (hn : ConsAt w v cs) (hl : cs.length ≤ 1048576) :
    Calls Try.prog 8 #[v] w fun e w' => ∃ g, e = .returned (.slice (some ⟨g, 0, none⟩) cs.length cs.length) ∧ ConsAt w' (.slice (some ⟨g, 0, none⟩) cs.length cs.length) cs ∧ w.heap.size ≤ g ∧ Below w.heap.size w w' := by
  refine (toConsS_own v cs w hn hl).mono ?_
  rintro e w' ⟨xs, rfl, hown, hx, hb⟩
  exact ⟨_, rfl, ConsIn.all hown rfl hx, Nat.le_refl _, hb⟩

set_option maxHeartbeats 1000000 in
theorem eqIntS_any (v1 v2 : Value) (ks : List Int) (w : World) (h1 : IntsAt w v1 ks) (h2 : IntsAt w v2 ks) :
    Calls Try.prog 10 #[v1, v2] w fun e w' => e = .returned (.bool true) ∧ ∃ n, w' = w.drewN n := by
  obtain ⟨a1, cap1, rfl, hl1, hm1, hc1⟩ := h1
  obtain ⟨a2, cap2, rfl, hl2, hm2, hc2⟩ := h2
  unfold maxLen at hm1 hm2
  have H1 := hide hc1
  have H2 := hide hc2
  clear hc1 hc2
  go_enter Try.func10, Try.ntmps10
  go_wp2_with fail
  go_loopw [5] (fun i wr => ∃ (k : Nat) (n : Nat), k ≤ ks.length ∧ i = .int .i64 k ∧ wr = w.drewN n) (fun i _ => ks.length - (intOf i).toNat)
  case atStart => exact ⟨0, 0, by omega, rfl, rfl⟩
  case round =>
    obtain ⟨k, n, hk, rfl, rfl⟩ := hrel
    by_cases hlt : k < ks.length
    · obtain ⟨b1, o1, rfl, c1⟩ := H1.out (by omega)
      obtain ⟨b2, o2, rfl, c2⟩ := H2.out (by omega)
      have d1 := c1 k hlt
      have d2 := c2 k hlt
      have hlt' : (k : Int) < ks.length := by omega
      clear c1 c2 H1 H2
      generalize ks[k] = q at *
      go_wp2_with fail
      go_region
      go_wp2_with fail
      go_roundw
      case rel => exact ⟨k + 1, _, by omega, by go_num, rfl⟩
      case measure => simp [intOf]; omega
    · go_wp2_with fail
      go_ret
      exact ⟨rfl, n, rfl⟩

set_option maxHeartbeats 1000000 in
theorem eqCons_any (c : Cn) (w : World) :
    Calls Try.prog 27 #[.agg #[.int .i64 c.a, .int .i64 c.n, .int .i64 c.b], .agg #[.int .i64 c.a, .int .i64 c.n, .int .i64 c.b]] w fun e w' => e = .returned (.bool true) ∧ Below w.heap.size w w' := by
  go_enter Try.func27, Try.ntmps27
  go_wp2_with fail
  go_ret
  exact ⟨rfl, ((Below.refl w.heap.size w).alloc (Nat.le_refl _) _).alloc (by simp) _⟩

set_option maxHeartbeats 1000000 in
theorem eqConsS_any (v1 v2 : Value) (cs : List Cn) (w : World) (h1 : ConsAt w v1 cs) (h2 : ConsAt w v2 cs) :
    Calls Try.prog 11 #[v1, v2] w fun e w' => e = .returned (.bool true) ∧ Below w.heap.size w w' := by
  obtain ⟨a1, cap1, rfl, hl1, hm1, hc1⟩ := h1
  obtain ⟨a2, cap2, rfl, hl2, hm2, hc2⟩ := h2
  unfold maxLen at hm1 hm2
  have H1 := hide hc1
  have H2 := hide hc2
  clear hc1 hc2
  go_enter Try.func11, Try.ntmps11
  go_wp2_with fail
  go_loopw [5] (fun i wr => ∃ (k : Nat), k ≤ cs.length ∧ i = .int .i64 k ∧ Below w.heap.size w wr) (fun i _ => cs.length - (intOf i).toNat)
  case atStart => exact ⟨0, by omega, rfl, Below.refl _ _⟩
  case round =>
    obtain ⟨k, hk, rfl, hbel⟩ := hrel
    by_cases hlt : k < cs.length
    · obtain ⟨b1, o1, rfl, c1⟩ := H1.out (by omega)
      obtain ⟨b2, o2, rfl, c2⟩ := H2.out (by omega)
      obtain ⟨p1, p2, p3⟩ := (c1 k hlt).keep hbel
      obtain ⟨q1, q2, q3⟩ := (c2 k hlt).keep hbel
      have hlt' : (k : Int) < cs.length := by omega
      clear c1 c2 H1 H2
      generalize cs[k] = c at *
      go_wp2_with fail
      go_region_with (go_at_call 27; refine (eqCons_any c _).mono ?_; rintro e w1 ⟨rfl, hb⟩)
      all_goals
        go_wp2_with fail
        go_roundw
        case rel => exact ⟨k + 1, by omega, by go_num, hbel.drew.trans (hb.mono hbel.size)⟩
        case measure => simp [intOf]; omega
    · go_wp2_with fail
      go_ret
      exact ⟨rfl, hbel⟩
end Go.Proofs.Yteedainidoldoaa
