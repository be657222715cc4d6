/- Putting a tree for a variable, as the specification and as the program do it (the program counts its room ahead of lifting). No program is walked here. -/
import Derived.Test.YtjkkojefpecbfaaGreatTrH
namespace Go.Proofs.YtjkkojefpecbfaaGreat

/-- A tree, or nothing where it is too great. -/
def fitT (T : Tt) : Option Tt := if T.far = true then none else sizedT T
theorem fit_big {T : Tt} (h : T.big) : fitT T = none := by
  unfold fitT sizedT
  rcases h with h | h
  · rw [if_pos h]
  · split
    · rfl
    · rw [if_neg (by omega)]
theorem fit_ok {T : Tt} (h : ¬ T.big) : fitT T = some T := by
  unfold fitT sizedT
  rw [if_neg (fun e => h (.inl e)), if_pos (by have : ¬ 20000 < T.cnt := fun e => h (.inr e); omega)]
theorem size_fit {T : Tt} (h : T.far = false) : sizedT T = fitT T := by unfold fitT; rw [if_neg (by simp [h])]
theorem fit_sub {T A : Tt} (hf : A.far = true → T.far = true) (hc : A.cnt ≤ T.cnt) (h : A.big) : T.big := h.elim (fun e => .inl (hf e)) (fun e => .inr (by omega))
theorem far_of {T : Tt} (h : ¬ T.big) : T.far = false := by
  cases e : T.far
  · rfl
  · exact absurd (.inl e) h
theorem join1_fit (h : Hd) (a : Tt) (hk : h.k ≠ 1) : join1 h (fitT a) = fitT (.t1 h a) := by
  by_cases ba : a.big
  · rw [fit_big ba, fit_big (fit_sub (T := .t1 h a) (A := a) (fun e => by simp [Tt.far, e]) (by simp [Tt.cnt]) ba)]
    rfl
  · rw [fit_ok ba]
    show sizedT _ = _
    refine size_fit ?_
    have ea : a.far = false := far_of ba
    simp [Tt.far, hk, ea]
theorem join2_fit (h : Hd) (a b : Tt) (hk : h.k ≠ 1) : join2 h (fitT a) (fitT b) = fitT (.t2 h a b) := by
  by_cases ba : a.big
  · rw [fit_big ba, fit_big (fit_sub (T := .t2 h a b) (A := a) (fun e => by simp [Tt.far, e]) (by simp [Tt.cnt]; omega) ba)]
    rfl
  · by_cases bb : b.big
    · rw [fit_big bb, fit_big (fit_sub (T := .t2 h a b) (A := b) (fun e => by simp [Tt.far, e]) (by simp [Tt.cnt]; omega) bb)]
      cases fitT a <;> rfl
    · rw [fit_ok ba, fit_ok bb]
      show sizedT _ = _
      refine size_fit ?_
      have ea : a.far = false := far_of ba
      have eb : b.far = false := far_of bb
      simp [Tt.far, hk, ea, eb]
theorem join3_fit (h : Hd) (a b c : Tt) (hk : h.k ≠ 1) : join3 h (fitT a) (fitT b) (fitT c) = fitT (.t3 h a b c) := by
  by_cases ba : a.big
  · rw [fit_big ba, fit_big (fit_sub (T := .t3 h a b c) (A := a) (fun e => by simp [Tt.far, e]) (by simp [Tt.cnt]; omega) ba)]
    rfl
  · by_cases bb : b.big
    · rw [fit_big bb, fit_big (fit_sub (T := .t3 h a b c) (A := b) (fun e => by simp [Tt.far, e]) (by simp [Tt.cnt]; omega) bb)]
      cases fitT a <;> rfl
    · by_cases bc : c.big
      · rw [fit_big bc, fit_big (fit_sub (T := .t3 h a b c) (A := c) (fun e => by simp [Tt.far, e]) (by simp [Tt.cnt]; omega) bc)]
        cases fitT a <;> cases fitT b <;> rfl
      · rw [fit_ok ba, fit_ok bb, fit_ok bc]
        show sizedT _ = _
        refine size_fit ?_
        have ea : a.far = false := far_of ba
        have eb : b.far = false := far_of bb
        have ec : c.far = false := far_of bc
        simp [Tt.far, hk, ea, eb, ec]
theorem join2_none (h : Hd) (x y : Option Tt) (e : x = none ∨ y = none) : join2 h x y = none := by
  rcases e with rfl | rfl
  · rfl
  · cases x <;> rfl
theorem join3_none (h : Hd) (x y z : Option Tt) (e : x = none ∨ y = none ∨ z = none) : join3 h x y z = none := by
  rcases e with rfl | rfl | rfl
  · rfl
  · cases x <;> rfl
  · cases x <;> cases y <;> rfl
/-- The specification's putting. -/
def putR (a : Tt) : Tt → Int → Tt
  | .t0 h, u => if (Tt.t0 h).z.lo ≤ u then .t0 h else if h.k = 1 then (if h.n = u then liftR u a 0 else varT (h.n - 1)) else .t0 h
  | .t1 h x, u => if (Tt.t1 h x).z.lo ≤ u then .t1 h x else .t1 h (putR a x (u + bindN h.k 0))
  | .t2 h x y, u => if (Tt.t2 h x y).z.lo ≤ u then .t2 h x y else .t2 h (putR a x (u + bindN h.k 0)) (putR a y (u + bindN h.k 1))
  | .t3 h x y z, u => if (Tt.t3 h x y z).z.lo ≤ u then .t3 h x y z else .t3 h (putR a x (u + bindN h.k 0)) (putR a y (u + bindN h.k 1)) (putR a z (u + bindN h.k 2))
/-- How much greater a tree becomes. -/
def ded (k : Nat) : Tt → Int → Nat
  | .t0 h, u => if (Tt.t0 h).z.lo ≤ u then 0 else if h.k = 1 ∧ h.n = u then k else 0
  | .t1 h x, u => if (Tt.t1 h x).z.lo ≤ u then 0 else ded k x (u + bindN h.k 0)
  | .t2 h x y, u => if (Tt.t2 h x y).z.lo ≤ u then 0 else ded k x (u + bindN h.k 0) + ded k y (u + bindN h.k 1)
  | .t3 h x y z, u => if (Tt.t3 h x y z).z.lo ≤ u then 0 else ded k x (u + bindN h.k 0) + ded k y (u + bindN h.k 1) + ded k z (u + bindN h.k 2)
theorem putR_cnt (a : Tt) : ∀ (T : Tt) (u : Int), (putR a T u).cnt = T.cnt + ded (a.cnt - 1) T u
  | .t0 h, u => by
    have ha := a.cnt_pos
    unfold putR ded
    split
    · rfl
    · by_cases h1 : h.k = 1
      · by_cases h2 : h.n = u
        · rw [if_pos h1, if_pos h2, if_pos ⟨h1, h2⟩, liftR_cnt]
          simp only [Tt.cnt]
          omega
        · rw [if_pos h1, if_neg h2, if_neg (fun h => h2 h.2)]
          rfl
      · rw [if_neg h1, if_neg (fun h => h1 h.1)]
        rfl
  | .t1 h x, u => by
    unfold putR ded
    split
    · rfl
    · simp only [Tt.cnt, putR_cnt a x]; omega
  | .t2 h x y, u => by
    unfold putR ded
    split
    · rfl
    · simp only [Tt.cnt, putR_cnt a x, putR_cnt a y]; omega
  | .t3 h x y z, u => by
    unfold putR ded
    split
    · rfl
    · simp only [Tt.cnt, putR_cnt a x, putR_cnt a y, putR_cnt a z]; omega
/-- What the program's putting knows at once, and the room that it counts. -/
def knowP (a : Tt) (T : Tt) (u r : Int) : Option (Option Tt) × Int :=
  if T.z.lo ≤ u then (some (some T), r)
  else if T.hd.k = 1 then
    if T.hd.n = u then (some (if r - ((a.cnt - 1 : Nat) : Int) < 0 then none else (chgS (knowL 0 u) a 0 ()).1), r - ((a.cnt - 1 : Nat) : Int))
    else (some (if 20000 < T.hd.n - 1 then none else some (varT (T.hd.n - 1))), r)
  else (none, r)
/-- What the program answers of a tree, and what room is left. -/
structure PutOk (a T : Tt) (u r : Int) (res : Option Tt × Int) : Prop where
  room : res.2 = r - (ded (a.cnt - 1) T u : Nat)
  good : 0 ≤ res.2 → res.1 = fitT (putR a T u)
  bad : 0 ≤ r → res.2 < 0 → res.1 = none
theorem fit_self {T : Tt} (hp : T.all varP) (hc : T.cnt ≤ 20000) : fitT T = some T := fit_ok (fun h => h.elim (fun e => by rw [far_no T hp] at e; cases e) (fun e => by omega))
theorem put_ok (a : Tt) (ha : a.all varP) (hac : a.cnt ≤ 20000) : ∀ (T : Tt) (u r : Int), T.all varP → T.cnt ≤ 20000 → PutOk a T u r (chgS (knowP a) T u r)
  | .t0 h, u, r, hp, hc => by
    by_cases h1 : (Tt.t0 h).z.lo ≤ u
    · have e : chgS (knowP a) (.t0 h) u r = (some (.t0 h), r) := by unfold chgS; simp [knowP, h1]
      have er : putR a (.t0 h) u = .t0 h := by unfold putR; rw [if_pos h1]
      have ed : ded (a.cnt - 1) (.t0 h) u = 0 := by unfold ded; rw [if_pos h1]
      rw [e]
      exact ⟨by rw [ed]; simp, fun _ => by rw [er, fit_self hp hc], fun h0 h2 => by have h2 : r < 0 := h2; omega⟩
    · by_cases h2 : h.k = 1
      · by_cases h3 : h.n = u
        · have e : chgS (knowP a) (.t0 h) u r = (if r - ((a.cnt - 1 : Nat) : Int) < 0 then none else (chgS (knowL 0 u) a 0 ()).1, r - ((a.cnt - 1 : Nat) : Int)) := by
            conv => lhs; unfold chgS
            simp only [knowP, h1, if_false, Tt.hd, h2, if_true, h3] <;> rfl
          have er : putR a (.t0 h) u = liftR u a 0 := by unfold putR; rw [if_neg h1, if_pos h2, if_pos h3]
          have ed : ded (a.cnt - 1) (.t0 h) u = a.cnt - 1 := by unfold ded; rw [if_neg h1, if_pos ⟨h2, h3⟩]
          rw [e]
          refine ⟨by rw [ed], fun hg => ?_, fun _ hb => ?_⟩
          · have hg : 0 ≤ r - ((a.cnt - 1 : Nat) : Int) := hg
            show (if r - ((a.cnt - 1 : Nat) : Int) < 0 then none else (chgS (knowL 0 u) a 0 ()).1) = _
            rw [if_neg (by omega), chg_liftR 0 u a 0 ha hac, er]
            rw [show (0 : Int) + 0 = 0 from rfl]
            unfold fitT sizedT
            rw [liftR_cnt, if_pos hac]
          · have hb : r - ((a.cnt - 1 : Nat) : Int) < 0 := hb
            show (if r - ((a.cnt - 1 : Nat) : Int) < 0 then none else (chgS (knowL 0 u) a 0 ()).1) = _
            rw [if_pos hb]
        · have e : chgS (knowP a) (.t0 h) u r = (if 20000 < h.n - 1 then none else some (varT (h.n - 1)), r) := by
            conv => lhs; unfold chgS
            simp only [knowP, h1, if_false, Tt.hd, h2, if_true, h3] <;> rfl
          have er : putR a (.t0 h) u = varT (h.n - 1) := by unfold putR; rw [if_neg h1, if_pos h2, if_neg h3]
          have ed : ded (a.cnt - 1) (.t0 h) u = 0 := by unfold ded; rw [if_neg h1, if_neg (fun h => h3 h.2)]
          rw [e]
          refine ⟨by rw [ed]; simp, fun _ => ?_, fun h0 hb => by have hb : r < 0 := hb; omega⟩
          have hn := (hp.1 h2).1
          show (if 20000 < h.n - 1 then none else some (varT (h.n - 1))) = _
          rw [if_neg (by omega), er, fit_ok]
          intro hb
          rcases hb with hb | hb
          · simp only [varT, Tt.far, Bool.and_eq_true, decide_eq_true_eq] at hb
            omega
          · simp only [varT, Tt.cnt] at hb
            omega
      · have e : chgS (knowP a) (.t0 h) u r = (sizedT (.t0 h), r) := by
          conv => lhs; unfold chgS
          simp only [knowP, h1, if_false, Tt.hd, h2]
        have er : putR a (.t0 h) u = .t0 h := by unfold putR; rw [if_neg h1, if_neg h2]
        have ed : ded (a.cnt - 1) (.t0 h) u = 0 := by unfold ded; rw [if_neg h1, if_neg (fun h => h2 h.1)]
        rw [e]
        exact ⟨by rw [ed]; simp, fun _ => by rw [er]; exact size_fit (far_no _ hp), fun h0 hb => by have hb : r < 0 := hb; omega⟩
  | .t1 h x, u, r, hp, hc => by
    have hk : h.k ≠ 1 := hp.1.2 (by omega)
    by_cases h1 : (Tt.t1 h x).z.lo ≤ u
    · have e : chgS (knowP a) (.t1 h x) u r = (some (.t1 h x), r) := by unfold chgS; simp [knowP, h1]
      have er : putR a (.t1 h x) u = .t1 h x := by unfold putR; rw [if_pos h1]
      have ed : ded (a.cnt - 1) (.t1 h x) u = 0 := by unfold ded; rw [if_pos h1]
      rw [e]
      exact ⟨by rw [ed]; simp, fun _ => by rw [er, fit_self hp hc], fun h0 h2 => by have h2 : r < 0 := h2; omega⟩
    · simp only [Tt.cnt] at hc
      have X := put_ok a ha hac x (u + bindN h.k 0) r hp.2 (by omega)
      have e : chgS (knowP a) (.t1 h x) u r = (join1 h (chgS (knowP a) x (u + bindN h.k 0) r).1, (chgS (knowP a) x (u + bindN h.k 0) r).2) := by
        conv => lhs; unfold chgS
        simp only [knowP, h1, if_false, Tt.hd, hk]
      have er : putR a (.t1 h x) u = .t1 h (putR a x (u + bindN h.k 0)) := by
        conv => lhs; unfold putR
        rw [if_neg h1]
      have ed : ded (a.cnt - 1) (.t1 h x) u = ded (a.cnt - 1) x (u + bindN h.k 0) := by
        conv => lhs; unfold ded
        rw [if_neg h1]
      rw [e]
      refine ⟨by rw [ed]; exact X.room, fun hg => ?_, fun h0 hb => ?_⟩
      · show join1 h _ = _
        rw [X.good hg, er, join1_fit h _ hk]
      · show join1 h _ = _
        rw [X.bad h0 hb]
        rfl
  | .t2 h x y, u, r, hp, hc => by
    have hk : h.k ≠ 1 := hp.1.2 (by omega)
    by_cases h1 : (Tt.t2 h x y).z.lo ≤ u
    · have e : chgS (knowP a) (.t2 h x y) u r = (some (.t2 h x y), r) := by unfold chgS; simp [knowP, h1]
      have er : putR a (.t2 h x y) u = .t2 h x y := by unfold putR; rw [if_pos h1]
      have ed : ded (a.cnt - 1) (.t2 h x y) u = 0 := by unfold ded; rw [if_pos h1]
      rw [e]
      exact ⟨by rw [ed]; simp, fun _ => by rw [er, fit_self hp hc], fun h0 h2 => by have h2 : r < 0 := h2; omega⟩
    · simp only [Tt.cnt] at hc
      have X := put_ok a ha hac x (u + bindN h.k 0) r hp.2.1 (by omega)
      have Y := put_ok a ha hac y (u + bindN h.k 1) (chgS (knowP a) x (u + bindN h.k 0) r).2 hp.2.2 (by omega)
      have e : chgS (knowP a) (.t2 h x y) u r = (join2 h (chgS (knowP a) x (u + bindN h.k 0) r).1 (chgS (knowP a) y (u + bindN h.k 1) (chgS (knowP a) x (u + bindN h.k 0) r).2).1, (chgS (knowP a) y (u + bindN h.k 1) (chgS (knowP a) x (u + bindN h.k 0) r).2).2) := by
        conv => lhs; unfold chgS
        simp only [knowP, h1, if_false, Tt.hd, hk]
      have er : putR a (.t2 h x y) u = .t2 h (putR a x (u + bindN h.k 0)) (putR a y (u + bindN h.k 1)) := by
        conv => lhs; unfold putR
        rw [if_neg h1]
      have ed : ded (a.cnt - 1) (.t2 h x y) u = ded (a.cnt - 1) x (u + bindN h.k 0) + ded (a.cnt - 1) y (u + bindN h.k 1) := by
        conv => lhs; unfold ded
        rw [if_neg h1]
      rw [e]
      generalize chgS (knowP a) x (u + bindN h.k 0) r = rx at *
      generalize chgS (knowP a) y (u + bindN h.k 1) rx.2 = ry at *
      have hx := X.room
      have hy := Y.room
      refine ⟨by rw [ed]; show ry.2 = _; omega, fun hg => ?_, fun h0 hb => ?_⟩
      · have hg : 0 ≤ ry.2 := hg
        show join2 h rx.1 ry.1 = _
        rw [X.good (by omega), Y.good hg, er, join2_fit h _ _ hk]
      · have hb : ry.2 < 0 := hb
        show join2 h rx.1 ry.1 = _
        refine join2_none h _ _ ?_
        by_cases e0 : 0 ≤ rx.2
        · exact .inr (Y.bad e0 hb)
        · exact .inl (X.bad h0 (by omega))
  | .t3 h x y z, u, r, hp, hc => by
    have hk : h.k ≠ 1 := hp.1.2 (by omega)
    by_cases h1 : (Tt.t3 h x y z).z.lo ≤ u
    · have e : chgS (knowP a) (.t3 h x y z) u r = (some (.t3 h x y z), r) := by unfold chgS; simp [knowP, h1]
      have er : putR a (.t3 h x y z) u = .t3 h x y z := by unfold putR; rw [if_pos h1]
      have ed : ded (a.cnt - 1) (.t3 h x y z) u = 0 := by unfold ded; rw [if_pos h1]
      rw [e]
      exact ⟨by rw [ed]; simp, fun _ => by rw [er, fit_self hp hc], fun h0 h2 => by have h2 : r < 0 := h2; omega⟩
    · simp only [Tt.cnt] at hc
      have X := put_ok a ha hac x (u + bindN h.k 0) r hp.2.1 (by omega)
      have Y := put_ok a ha hac y (u + bindN h.k 1) (chgS (knowP a) x (u + bindN h.k 0) r).2 hp.2.2.1 (by omega)
      have W := put_ok a ha hac z (u + bindN h.k 2) (chgS (knowP a) y (u + bindN h.k 1) (chgS (knowP a) x (u + bindN h.k 0) r).2).2 hp.2.2.2 (by omega)
      have e : chgS (knowP a) (.t3 h x y z) u r = (join3 h (chgS (knowP a) x (u + bindN h.k 0) r).1 (chgS (knowP a) y (u + bindN h.k 1) (chgS (knowP a) x (u + bindN h.k 0) r).2).1 (chgS (knowP a) z (u + bindN h.k 2) (chgS (knowP a) y (u + bindN h.k 1) (chgS (knowP a) x (u + bindN h.k 0) r).2).2).1, (chgS (knowP a) z (u + bindN h.k 2) (chgS (knowP a) y (u + bindN h.k 1) (chgS (knowP a) x (u + bindN h.k 0) r).2).2).2) := by
        conv => lhs; unfold chgS
        simp only [knowP, h1, if_false, Tt.hd, hk]
      have er : putR a (.t3 h x y z) u = .t3 h (putR a x (u + bindN h.k 0)) (putR a y (u + bindN h.k 1)) (putR a z (u + bindN h.k 2)) := by
        conv => lhs; unfold putR
        rw [if_neg h1]
      have ed : ded (a.cnt - 1) (.t3 h x y z) u = ded (a.cnt - 1) x (u + bindN h.k 0) + ded (a.cnt - 1) y (u + bindN h.k 1) + ded (a.cnt - 1) z (u + bindN h.k 2) := by
        conv => lhs; unfold ded
        rw [if_neg h1]
      rw [e]
      generalize chgS (knowP a) x (u + bindN h.k 0) r = rx at *
      generalize chgS (knowP a) y (u + bindN h.k 1) rx.2 = ry at *
      generalize chgS (knowP a) z (u + bindN h.k 2) ry.2 = rz at *
      have hx := X.room
      have hy := Y.room
      have hw := W.room
      refine ⟨by rw [ed]; show rz.2 = _; omega, fun hg => ?_, fun h0 hb => ?_⟩
      · have hg : 0 ≤ rz.2 := hg
        show join3 h rx.1 ry.1 rz.1 = _
        rw [X.good (by omega), Y.good (by omega), W.good hg, er, join3_fit h _ _ _ hk]
      · have hb : rz.2 < 0 := hb
        show join3 h rx.1 ry.1 rz.1 = _
        refine join3_none h _ _ _ ?_
        by_cases e0 : 0 ≤ rx.2
        · by_cases e1 : 0 ≤ ry.2
          · exact .inr (.inr (W.bad e1 hb))
          · exact .inr (.inl (Y.bad e0 (by omega)))
        · exact .inl (X.bad h0 (by omega))
/-- Both put alike: the program's room is spent just where the tree is too great. -/
theorem put_both (a T : Tt) (ha : a.all varP) (hac : a.cnt ≤ 20000) (hT : T.all varP) (hc : T.cnt ≤ 20000) : (chgS (knowP a) T 0 (20000 - (T.cnt : Int))).1 = fitT (putR a T 0) := by
  have P := put_ok a ha hac T 0 (20000 - (T.cnt : Int)) hT hc
  have hr := P.room
  by_cases h : 0 ≤ (chgS (knowP a) T 0 (20000 - (T.cnt : Int))).2
  · exact P.good h
  · rw [P.bad (by omega) (by omega)]
    exact (fit_big (.inr (by rw [putR_cnt]; omega))).symm
end Go.Proofs.YtjkkojefpecbfaaGreat
