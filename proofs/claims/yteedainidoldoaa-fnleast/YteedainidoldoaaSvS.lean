/- The heap as a set of raised sides: next and Len. -/
import Derived.Test.YteedainidoldoaaSvP
namespace Go.Proofs.Yteedainidoldoaa
open Go.ChangeShapes Go.WideShapes Go.ChangeAt Go.RowKit

theorem Off.frozen {w w' : World} {rb k : Nat} (h : FrH rb w w') (ho : Off w rb k) (hk : k < w.heap.size) (o : Nat) : w'.frozen? ⟨k, o, none⟩ = w.frozen? ⟨k, o, none⟩ := World.frozen?_of_block (h.off k hk ho).1
/-- What lies behind all that was there when the list was last made is off the heap. -/
theorem Hq.off {w w' : World} {rb n : Nat} {f : Nat → Rp} {q : Nat → Bool} (h : Hq w rb n f q) (hb : Below w.heap.size w w') {k : Nat} (hk : w.heap.size ≤ k) : Off w' rb k := by
  refine ⟨fun e => by have := h.lt; omega, fun v hv e => ?_⟩
  obtain ⟨v0, xs, h1, h2, _⟩ := h.lst
  rw [hb.cell (p := ⟨rb, 0, none⟩) h.lt, h1] at hv
  cases hv
  rcases h2.2 with ⟨rfl, _⟩ | ⟨g, cap, cur, rfl, _, hg, _⟩
  · cases e
  · have e2 : g = k := by simpa [Value.ownBlock] using e
    have := (Array.getElem?_eq_some_iff.1 hg).1
    omega
theorem Off.side {w : World} {rb k : Nat} (ho : Off w rb k) (o : Nat) (u : Value) : Off (w.setCell ⟨k, o, none⟩ u) rb k :=
  ⟨ho.1, fun v hv => ho.2 v (by rw [World.cell?_setCell_other _ _ _ _ (by simp; intro e; exact absurd e ho.1)] at hv; exact hv)⟩
theorem Hq.side {w : World} {rb n k : Nat} {f : Nat → Rp} {q : Nat → Bool} (h : Hq w rb n f q) (ho : Off w rb k) (o : Nat) (u : Value) : Hq (w.setCell ⟨k, o, none⟩ u) rb n f q := by
  obtain ⟨v, xs, h1, h2, h3⟩ := h.lst
  have hgr : w.grownBy (w.setCell ⟨k, o, none⟩ u) (some k) := ⟨rfl, rfl, rfl, by simp, fun i _ hk => heap_setCell_other w ⟨k, o, none⟩ i _ (fun e => hk (by simp [e]))⟩
  have hne : some rb ≠ some k := fun e => ho.1 (Option.some.inj e).symm
  exact ⟨⟨v, xs, far_cell hgr hne h1, h2.kept hgr (.inr (ho.2 _ h1)), h3⟩, fun j hj => far_cell hgr hne (h.wts j hj), fun j => by rw [World.frozen?_setCell]; exact h.frz j⟩
theorem FrH.side {w w' : World} {rb k : Nat} (h : FrH rb w w') (hr : rb < w.heap.size) (hk : w.heap.size ≤ k) (o : Nat) (u : Value) : FrH rb w (w'.setCell ⟨k, o, none⟩ u) :=
  ⟨h.bel.setCell (p := ⟨k, o, none⟩) (by show rb ≤ k; omega) _, fun i hi ho => by
    obtain ⟨a1, a2⟩ := h.off i hi ho
    refine ⟨(heap_setCell_other w' ⟨k, o, none⟩ i u (by show i ≠ k; omega)).trans a1, a2.1, fun v hv => a2.2 v ?_⟩
    rw [World.cell?_setCell_other _ _ _ _ (by simp <;> omega)] at hv
    exact hv⟩
theorem lenS_any (rb : Nat) (M : Rp → Prop) (w : World) (h : HS w rb M) :
    Calls Try.prog 37 #[.pointer (some ⟨rb, 0, none⟩)] w fun e w' => ∃ n : Nat, e = .returned (.int .i64 n) ∧ w' = w ∧ (n = 0 ↔ ∀ p, ¬ M p) := by
  obtain ⟨n, f, q, g1, g2, g3, g4, g5, g6⟩ := h
  refine (len_any rb n f q w g1).mono ?_
  rintro e w' ⟨rfl, rfl⟩
  refine ⟨n, rfl, rfl, fun e p hp => ?_, fun hp => ?_⟩
  · obtain ⟨k, hk, _⟩ := (g4 p).2 hp
    omega
  · refine Classical.byContradiction (fun hn => hp _ ((g4 _).1 ⟨0, by omega, rfl⟩))

set_option maxRecDepth 20000 in
set_option maxHeartbeats 8000000 in
theorem next_any (rb : Nat) (M : Rp → Prop) (w : World) (h : HS w rb M) (hM : ∃ p, M p) :
    Calls Try.prog 38 #[.pointer (some ⟨rb, 0, none⟩)] w fun e w' => ∃ p : Rp, e = .returned (.agg #[.int .i64 p.1, .int .i64 p.2]) ∧ M p ∧ (∀ x, M x → leP p x) ∧ HS w' rb (fun x => M x ∧ x.2 ≠ p.2) ∧ FrH rb w w' := by
  obtain ⟨n, f, q, g1, g2, g3, g4, g5, g6⟩ := h
  obtain ⟨m, rfl⟩ : ∃ m, n = m + 1 := by
    obtain ⟨p, hp⟩ := hM
    obtain ⟨k, hk, _⟩ := (g4 p).2 hp
    exact ⟨n - 1, by omega⟩
  have hlen : m + 1 ≤ 31 := dst_len g3 (fun k hk => g5 _ ((g4 _).1 ⟨k, hk, rfl⟩))
  obtain ⟨g, cap, xs, h1, h2, h3, hrg, hg, hc, hm⟩ := g1.row (by omega)
  obtain ⟨a1, a2⟩ := h3.cells h2 0 (by omega)
  have hrb := g1.lt
  unfold maxLen at hm
  have hm0 : M (f 0) := (g4 _).1 ⟨0, by omega, rfl⟩
  have hs0 := g5 _ hm0
  obtain ⟨j, hj⟩ : ∃ j : Nat, (f 0).2 = (j : Int) - 1 := ⟨((f 0).2 + 1).toNat, by omega⟩
  have hj31 : j < 31 := by omega
  have HQ : Hid (∀ o1 o2, Hq ((w.alloc o1).alloc o2) rb (m + 1) f q) := fun o1 o2 => g1.keep (bel_alloc (bel_alloc (Below.refl _ _) o1) o2)
  have HO : Hid (∀ o1 o2 k, w.heap.size ≤ k → Off ((w.alloc o1).alloc o2) rb k) := fun o1 o2 k hk => g1.off (bel_alloc (bel_alloc (Below.refl _ _) o1) o2) hk
  have HP := hide (fun W (hW : Hq W rb (m + 1) f q) => heapPop_any rb m f q W hW (by omega) g2)
  have HB : Hid (∀ o1 o2, FrH rb w ((w.alloc o1).alloc o2)) := fun o1 o2 => .keep (bel_alloc (bel_alloc (Below.refl _ _) o1) o2) hrb
  have HZ : Hid (∀ W f', Hq W rb m f' (upB q j false) → HpF m f' → Same m (swF f 0 m) f' → M (f 0) ∧ (∀ x, M x → leP (f 0) x) ∧ HS W rb (fun x => M x ∧ x.2 ≠ (f 0).2)) := by
    intro W f' k1 k2 k3
    refine ⟨hm0, fun x hx => ?_, m, f', upB q j false, k1, k2, k3.dst (dst_less (dst_sw (by omega) (by omega) g3) (by omega)), fun p => ?_, fun p hp => g5 p hp.1, fun i hi => ?_⟩
    · obtain ⟨k, hk, rfl⟩ := (g4 x).2 hx
      exact g2.top k hk
    · rw [k3.mem, inH_pop g3, g4]
    · unfold upB
      by_cases e : i = j
      · subst e
        rw [if_pos rfl]
        constructor
        · intro h; cases h
        · rintro ⟨r, hr⟩; exact absurd hj.symm hr.2
      · rw [if_neg e, g6 i hi]
        constructor
        · rintro ⟨r, hr⟩
          refine ⟨r, hr, fun e2 => ?_⟩
          rw [hj] at e2
          simp only at e2
          omega
        · rintro ⟨r, hr⟩
          exact ⟨r, hr.1⟩
  clear h2 h3 g1 g2 g3 g4 g5 g6 hm0 hM xs
  have HE : Hid (f 0 = ((f 0).1, (f 0).2)) := rfl
  obtain ⟨p0, hp0⟩ : ∃ p, p = f 0 := ⟨_, rfl⟩
  rw [← hp0] at a1 a2 hs0 hj HZ HE
  obtain ⟨p1, p2⟩ := p0
  simp only at a1 a2 hs0 hj
  subst hj
  have hwj : IntKind.i64.wrap ((j : Int) - 1 - -1) = (j : Int) := by rw [IntKind.wrap_i64]; omega
  have hsj : (j : Int) - 1 - -1 = (j : Int) := by omega
  have hji : (j : Int) < 31 := by omega
  clear hp0
  go_enter Try.func38, Try.ntmps38
  go_wp2_with (first
    | (go_at_call 47; refine (HP.out _ (HQ.out _ _)).mono ?_; rintro e w2 ⟨⟨v2, rfl⟩, f2, q2, u2, s2, r2⟩)
    | fail)
  have hoA := HO.out (.cells #[.int .i64 0, .int .i64 0] 65) (.cells #[.int .i64 p1, .int .i64 ((j : Int) - 1)] 65) w.heap.size (Nat.le_refl _)
  have hoB := HO.out (.cells #[.int .i64 0, .int .i64 0] 65) (.cells #[.int .i64 p1, .int .i64 ((j : Int) - 1)] 65) (w.heap.size + 1) (by omega)
  have d1 : w2.cell? ⟨w.heap.size + 1, 0, none⟩ = some (.int .i64 p1) := hoB.cell r2 (by rw [← World.size_alloc w (.cells #[.int .i64 0, .int .i64 0] 65), World.cell?_alloc_new]; rfl)
  have d2 : w2.cell? ⟨w.heap.size + 1, 1, none⟩ = some (.int .i64 ((j : Int) - 1)) := hoB.cell r2 (by rw [← World.size_alloc w (.cells #[.int .i64 0, .int .i64 0] 65), World.cell?_alloc_new]; rfl)
  have z1 : w2.cell? ⟨w.heap.size, 0, none⟩ = some (.int .i64 0) := hoA.cell r2 (keep_cell (bel_alloc (Below.refl _ _) _) (by rw [World.cell?_alloc_new]; rfl))
  have z2 : w2.cell? ⟨w.heap.size, 1, none⟩ = some (.int .i64 0) := hoA.cell r2 (keep_cell (bel_alloc (Below.refl _ _) _) (by rw [World.cell?_alloc_new]; rfl))
  have y : ∀ o, w2.frozen? ⟨w.heap.size, o, none⟩ = false := fun o => by
    rw [hoA.frozen r2 (by simp; omega), (bel_alloc (Below.refl _ _) _).frozen (p := ⟨w.heap.size, o, none⟩) (by simp)]
    exact World.frozen?_alloc_new _ _ _ _
  have y1 := y 0
  have y2 := y 1
  have hw := q2.wts j hj31
  have hfz := q2.frz (j + 1)
  have hwt := q2.wait j hj31 false
  rw [Nat.add_comm j 1] at hw hfz hwt
  have hoC := (r2.off _ (by simp; omega) hoA).2
  have hoD := (hwt.2.off _ (lt_cell z1) hoC).2
  have HF := hide (((HB.out _ _).trans r2).trans hwt.2)
  have HD := hide hoD
  have HR := hide hwt.1
  have HZ2 := hide (fun W (hW : Hq W rb m f2 (upB q j false)) => HZ.out W f2 hW u2 s2)
  have hne : ¬ (rb = w.heap.size) := by omega
  have hne2 : ¬ (rb = w.heap.size + 1) := by omega
  have hne3 : ¬ (w.heap.size = rb) := by omega
  have hne4 : ¬ (w.heap.size + 1 = rb) := by omega
  clear y q2 u2 s2 r2 hwt hoA hoB hoC hoD HZ HB HO HQ HP h1 hg hc hm a1 a2 hrg HE
  have HRB := hide hrb
  go_region
  go_wp2_with fail
  have K1 := HR.out.side HD.out 0 (.int .i64 p1)
  have K2 := K1.side (HD.out.side 0 _) 1 (.int .i64 ((j : Int) - 1))
  have K3 := (HF.out.side HRB.out (Nat.le_refl _) 0 (.int .i64 p1)).side HRB.out (Nat.le_refl _) 1 (.int .i64 ((j : Int) - 1))
  obtain ⟨m1, m2, m3⟩ := HZ2.out _ K2
  refine bodyPost_ret (v := .agg #[.int .i64 p1, .int .i64 ((j : Int) - 1)]) (by simp [results, Try.results38, go_sem, z1, z2]) rfl ⟨(p1, (j : Int) - 1), rfl, m1, m2, m3.keep (Below.refl _ _).drew, K3.trans (.keep (Below.refl _ _).drew m3.lt)⟩
end Go.Proofs.Yteedainidoldoaa
