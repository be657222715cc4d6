/- Putting a tree for a hole, as the specification and as the program do it. No program is walked here. -/
import Derived.Test.YtjkkojefpecbfaaGreatTrI
namespace Go.Proofs.YtjkkojefpecbfaaGreat

/-- The specification's putting for a hole. -/
def fillR (a : Tt) (hole : Int) : Tt → Int → Tt
  | .t0 h, u => if (Tt.t0 h).z.ho = false then .t0 h else if h.k = 9 ∧ h.n = hole then liftR u a 0 else .t0 h
  | .t1 h x, u => if (Tt.t1 h x).z.ho = false then .t1 h x else .t1 h (fillR a hole x (u + bindN h.k 0))
  | .t2 h x y, u => if (Tt.t2 h x y).z.ho = false then .t2 h x y else .t2 h (fillR a hole x (u + bindN h.k 0)) (fillR a hole y (u + bindN h.k 1))
  | .t3 h x y z, u => if (Tt.t3 h x y z).z.ho = false then .t3 h x y z else .t3 h (fillR a hole x (u + bindN h.k 0)) (fillR a hole y (u + bindN h.k 1)) (fillR a hole z (u + bindN h.k 2))
/-- How much greater a tree becomes. -/
def dedH (hole : Int) (k : Nat) : Tt → Int → Nat
  | .t0 h, _ => if (Tt.t0 h).z.ho = false then 0 else if h.k = 9 ∧ h.n = hole then k else 0
  | .t1 h x, u => if (Tt.t1 h x).z.ho = false then 0 else dedH hole k x (u + bindN h.k 0)
  | .t2 h x y, u => if (Tt.t2 h x y).z.ho = false then 0 else dedH hole k x (u + bindN h.k 0) + dedH hole k y (u + bindN h.k 1)
  | .t3 h x y z, u => if (Tt.t3 h x y z).z.ho = false then 0 else dedH hole k x (u + bindN h.k 0) + dedH hole k y (u + bindN h.k 1) + dedH hole k z (u + bindN h.k 2)
theorem fillR_cnt (a : Tt) (hole : Int) : ∀ (T : Tt) (u : Int), (fillR a hole T u).cnt = T.cnt + dedH hole (a.cnt - 1) T u
  | .t0 h, u => by
    have ha := a.cnt_pos
    unfold fillR dedH
    split
    · rfl
    · by_cases h1 : h.k = 9 ∧ h.n = hole
      · rw [if_pos h1, if_pos h1, liftR_cnt]
        simp only [Tt.cnt]
        omega
      · rw [if_neg h1, if_neg h1]
        rfl
  | .t1 h x, u => by
    unfold fillR dedH
    split
    · rfl
    · simp only [Tt.cnt, fillR_cnt a hole x]; omega
  | .t2 h x y, u => by
    unfold fillR dedH
    split
    · rfl
    · simp only [Tt.cnt, fillR_cnt a hole x, fillR_cnt a hole y]; omega
  | .t3 h x y z, u => by
    unfold fillR dedH
    split
    · rfl
    · simp only [Tt.cnt, fillR_cnt a hole x, fillR_cnt a hole y, fillR_cnt a hole z]; omega
/-- What the program's putting knows at once, and the room that it counts. -/
def knowH (a : Tt) (hole : Int) (T : Tt) (u r : Int) : Option (Option Tt) × Int :=
  if T.hd.k = 9 ∧ T.hd.n = hole then (some (if r - ((a.cnt - 1 : Nat) : Int) < 0 then none else (chgS (knowL 0 u) a 0 ()).1), r - ((a.cnt - 1 : Nat) : Int))
  else if T.z.ho = false ∨ T.hd.k = 9 then (some (some T), r)
  else (none, r)
/-- Only what has no kids is a hole. -/
def holeP (h : Hd) (c : Nat) : Prop := varP h c ∧ (1 ≤ c → h.k ≠ 9)
theorem hole_var (h : Hd) (c : Nat) (hp : holeP h c) : varP h c := hp.1
theorem node_hole (h : Hd) (c : Nat) (hp : nodeP h c) : holeP h c := ⟨node_var h c hp, fun hc e => by
  have h1 := hp.1
  rw [e] at h1
  have : tkidsN 9 = 0 := by decide
  omega⟩
theorem ho_leaf (h : Hd) (e : h.k = 9) : (Tt.t0 h).z.ho = true := by simp [Tt.z, zmk, hoP, e]
/-- What the program answers of a tree, and what room is left. -/
structure FillOk (a : Tt) (hole : Int) (T : Tt) (u r : Int) (res : Option Tt × Int) : Prop where
  room : res.2 = r - (dedH hole (a.cnt - 1) T u : Nat)
  good : 0 ≤ res.2 → res.1 = fitT (fillR a hole T u)
  bad : 0 ≤ r → res.2 < 0 → res.1 = none
theorem fill_ok (a : Tt) (hole : Int) (ha : a.all varP) (hac : a.cnt ≤ 20000) : ∀ (T : Tt) (u r : Int), T.all holeP → T.cnt ≤ 20000 → FillOk a hole T u r (chgS (knowH a hole) T u r)
  | .t0 h, u, r, hp, hc => by
    have hv : (Tt.t0 h).all varP := hp.1
    by_cases h2 : h.k = 9 ∧ h.n = hole
    · have hho : ¬ (Tt.t0 h).z.ho = false := by rw [ho_leaf h h2.1]; decide
      have e : chgS (knowH a hole) (.t0 h) u r = (if r - ((a.cnt - 1 : Nat) : Int) < 0 then none else (chgS (knowL 0 u) a 0 ()).1, r - ((a.cnt - 1 : Nat) : Int)) := by
        have ek : knowH a hole (.t0 h) u r = (some (if r - ((a.cnt - 1 : Nat) : Int) < 0 then none else (chgS (knowL 0 u) a 0 ()).1), r - ((a.cnt - 1 : Nat) : Int)) := by unfold knowH; rw [if_pos (show (Tt.t0 h).hd.k = 9 ∧ (Tt.t0 h).hd.n = hole from h2)]
        conv => lhs; unfold chgS
        rw [ek]
      have er : fillR a hole (.t0 h) u = liftR u a 0 := by unfold fillR; rw [if_neg hho, if_pos h2]
      have ed : dedH hole (a.cnt - 1) (.t0 h) u = a.cnt - 1 := by unfold dedH; rw [if_neg hho, if_pos h2]
      rw [e]
      refine ⟨by rw [ed], fun hg => ?_, fun _ hb => ?_⟩
      · have hg : 0 ≤ r - ((a.cnt - 1 : Nat) : Int) := hg
        show (if r - ((a.cnt - 1 : Nat) : Int) < 0 then none else (chgS (knowL 0 u) a 0 ()).1) = _
        rw [if_neg (by omega), chg_liftR 0 u a 0 ha hac, er]
        rw [show (0 : Int) + 0 = 0 from rfl]
        unfold fitT sizedT
        rw [liftR_cnt, if_pos hac]
      · have hb : r - ((a.cnt - 1 : Nat) : Int) < 0 := hb
        show (if r - ((a.cnt - 1 : Nat) : Int) < 0 then none else (chgS (knowL 0 u) a 0 ()).1) = _
        rw [if_pos hb]
    · have e : chgS (knowH a hole) (.t0 h) u r = (some (.t0 h), r) := by
        have h2' : ¬ ((Tt.t0 h).hd.k = 9 ∧ (Tt.t0 h).hd.n = hole) := h2
        by_cases h3 : (Tt.t0 h).z.ho = false ∨ (Tt.t0 h).hd.k = 9
        · have ek : knowH a hole (.t0 h) u r = (some (some (.t0 h)), r) := by unfold knowH; rw [if_neg h2', if_pos h3]
          unfold chgS
          rw [ek]
        · have ek : knowH a hole (.t0 h) u r = (none, r) := by unfold knowH; rw [if_neg h2', if_neg h3]
          unfold chgS
          rw [ek]
          show (sizedT (.t0 h), r) = _
          unfold sizedT
          rw [if_pos (by simp [Tt.cnt])]
      have er : fillR a hole (.t0 h) u = .t0 h := by
        unfold fillR
        split
        · rfl
        · first | rfl | rw [if_neg h2]
      have ed : dedH hole (a.cnt - 1) (.t0 h) u = 0 := by
        unfold dedH
        split
        · rfl
        · first | rfl | rw [if_neg h2]
      rw [e]
      exact ⟨by rw [ed]; simp, fun _ => by rw [er, fit_self hv hc], fun h0 hb => by have hb : r < 0 := hb; omega⟩
  | .t1 h x, u, r, hp, hc => by
    have hk : h.k ≠ 1 := hp.1.1.2 (by omega)
    have hk9 : ¬ (Tt.t1 h x).hd.k = 9 := hp.1.2 (by omega)
    have hv : (Tt.t1 h x).all varP := all_mono hole_var hp
    by_cases h1 : (Tt.t1 h x).z.ho = false
    · have e : chgS (knowH a hole) (.t1 h x) u r = (some (.t1 h x), r) := by
        have ek : knowH a hole (.t1 h x) u r = (some (some (.t1 h x)), r) := by unfold knowH; rw [if_neg (fun h => hk9 h.1), if_pos (.inl h1)]
        unfold chgS
        rw [ek]
      have er : fillR a hole (.t1 h x) u = .t1 h x := by unfold fillR; rw [if_pos h1]
      have ed : dedH hole (a.cnt - 1) (.t1 h x) u = 0 := by unfold dedH; rw [if_pos h1]
      rw [e]
      exact ⟨by rw [ed]; simp, fun _ => by rw [er, fit_self hv hc], fun h0 h2 => by have h2 : r < 0 := h2; omega⟩
    · simp only [Tt.cnt] at hc
      have X := fill_ok a hole ha hac x (u + bindN h.k 0) r hp.2 (by omega)
      have e : chgS (knowH a hole) (.t1 h x) u r = (join1 h (chgS (knowH a hole) x (u + bindN h.k 0) r).1, (chgS (knowH a hole) x (u + bindN h.k 0) r).2) := by
        have ek : knowH a hole (.t1 h x) u r = (none, r) := by unfold knowH; rw [if_neg (fun h => hk9 h.1), if_neg (fun h => h.elim h1 hk9)]
        conv => lhs; unfold chgS
        rw [ek]
      have er : fillR a hole (.t1 h x) u = .t1 h (fillR a hole x (u + bindN h.k 0)) := by
        conv => lhs; unfold fillR
        rw [if_neg h1]
      have ed : dedH hole (a.cnt - 1) (.t1 h x) u = dedH hole (a.cnt - 1) x (u + bindN h.k 0) := by
        conv => lhs; unfold dedH
        rw [if_neg h1]
      rw [e]
      refine ⟨by rw [ed]; exact X.room, fun hg => ?_, fun h0 hb => ?_⟩
      · show join1 h _ = _
        rw [X.good hg, er, join1_fit h _ hk]
      · show join1 h _ = _
        rw [X.bad h0 hb]
        rfl
  | .t2 h x y, u, r, hp, hc => by
    have hk : h.k ≠ 1 := hp.1.1.2 (by omega)
    have hk9 : ¬ (Tt.t2 h x y).hd.k = 9 := hp.1.2 (by omega)
    have hv : (Tt.t2 h x y).all varP := all_mono hole_var hp
    by_cases h1 : (Tt.t2 h x y).z.ho = false
    · have e : chgS (knowH a hole) (.t2 h x y) u r = (some (.t2 h x y), r) := by
        have ek : knowH a hole (.t2 h x y) u r = (some (some (.t2 h x y)), r) := by unfold knowH; rw [if_neg (fun h => hk9 h.1), if_pos (.inl h1)]
        unfold chgS
        rw [ek]
      have er : fillR a hole (.t2 h x y) u = .t2 h x y := by unfold fillR; rw [if_pos h1]
      have ed : dedH hole (a.cnt - 1) (.t2 h x y) u = 0 := by unfold dedH; rw [if_pos h1]
      rw [e]
      exact ⟨by rw [ed]; simp, fun _ => by rw [er, fit_self hv hc], fun h0 h2 => by have h2 : r < 0 := h2; omega⟩
    · simp only [Tt.cnt] at hc
      have X := fill_ok a hole ha hac x (u + bindN h.k 0) r hp.2.1 (by omega)
      have Y := fill_ok a hole ha hac y (u + bindN h.k 1) (chgS (knowH a hole) x (u + bindN h.k 0) r).2 hp.2.2 (by omega)
      have e : chgS (knowH a hole) (.t2 h x y) u r = (join2 h (chgS (knowH a hole) x (u + bindN h.k 0) r).1 (chgS (knowH a hole) y (u + bindN h.k 1) (chgS (knowH a hole) x (u + bindN h.k 0) r).2).1, (chgS (knowH a hole) y (u + bindN h.k 1) (chgS (knowH a hole) x (u + bindN h.k 0) r).2).2) := by
        have ek : knowH a hole (.t2 h x y) u r = (none, r) := by unfold knowH; rw [if_neg (fun h => hk9 h.1), if_neg (fun h => h.elim h1 hk9)]
        conv => lhs; unfold chgS
        rw [ek]
      have er : fillR a hole (.t2 h x y) u = .t2 h (fillR a hole x (u + bindN h.k 0)) (fillR a hole y (u + bindN h.k 1)) := by
        conv => lhs; unfold fillR
        rw [if_neg h1]
      have ed : dedH hole (a.cnt - 1) (.t2 h x y) u = dedH hole (a.cnt - 1) x (u + bindN h.k 0) + dedH hole (a.cnt - 1) y (u + bindN h.k 1) := by
        conv => lhs; unfold dedH
        rw [if_neg h1]
      rw [e]
      generalize chgS (knowH a hole) x (u + bindN h.k 0) r = rx at *
      generalize chgS (knowH a hole) y (u + bindN h.k 1) rx.2 = ry at *
      have hx := X.room
      have hy := Y.room
      refine ⟨by rw [ed]; show ry.2 = _; omega, fun hg => ?_, fun h0 hb => ?_⟩
      · have hg : 0 ≤ ry.2 := hg
        show join2 h rx.1 ry.1 = _
        rw [X.good (by omega), Y.good hg, er, join2_fit h _ _ hk]
      · have hb : ry.2 < 0 := hb
        show join2 h rx.1 ry.1 = _
        refine join2_none h _ _ ?_
        by_cases e0 : 0 ≤ rx.2
        · exact .inr (Y.bad e0 hb)
        · exact .inl (X.bad h0 (by omega))
  | .t3 h x y z, u, r, hp, hc => by
    have hk : h.k ≠ 1 := hp.1.1.2 (by omega)
    have hk9 : ¬ (Tt.t3 h x y z).hd.k = 9 := hp.1.2 (by omega)
    have hv : (Tt.t3 h x y z).all varP := all_mono hole_var hp
    by_cases h1 : (Tt.t3 h x y z).z.ho = false
    · have e : chgS (knowH a hole) (.t3 h x y z) u r = (some (.t3 h x y z), r) := by
        have ek : knowH a hole (.t3 h x y z) u r = (some (some (.t3 h x y z)), r) := by unfold knowH; rw [if_neg (fun h => hk9 h.1), if_pos (.inl h1)]
        unfold chgS
        rw [ek]
      have er : fillR a hole (.t3 h x y z) u = .t3 h x y z := by unfold fillR; rw [if_pos h1]
      have ed : dedH hole (a.cnt - 1) (.t3 h x y z) u = 0 := by unfold dedH; rw [if_pos h1]
      rw [e]
      exact ⟨by rw [ed]; simp, fun _ => by rw [er, fit_self hv hc], fun h0 h2 => by have h2 : r < 0 := h2; omega⟩
    · simp only [Tt.cnt] at hc
      have X := fill_ok a hole ha hac x (u + bindN h.k 0) r hp.2.1 (by omega)
      have Y := fill_ok a hole ha hac y (u + bindN h.k 1) (chgS (knowH a hole) x (u + bindN h.k 0) r).2 hp.2.2.1 (by omega)
      have W := fill_ok a hole ha hac z (u + bindN h.k 2) (chgS (knowH a hole) y (u + bindN h.k 1) (chgS (knowH a hole) x (u + bindN h.k 0) r).2).2 hp.2.2.2 (by omega)
      have e : chgS (knowH a hole) (.t3 h x y z) u r = (join3 h (chgS (knowH a hole) x (u + bindN h.k 0) r).1 (chgS (knowH a hole) y (u + bindN h.k 1) (chgS (knowH a hole) x (u + bindN h.k 0) r).2).1 (chgS (knowH a hole) z (u + bindN h.k 2) (chgS (knowH a hole) y (u + bindN h.k 1) (chgS (knowH a hole) x (u + bindN h.k 0) r).2).2).1, (chgS (knowH a hole) z (u + bindN h.k 2) (chgS (knowH a hole) y (u + bindN h.k 1) (chgS (knowH a hole) x (u + bindN h.k 0) r).2).2).2) := by
        have ek : knowH a hole (.t3 h x y z) u r = (none, r) := by unfold knowH; rw [if_neg (fun h => hk9 h.1), if_neg (fun h => h.elim h1 hk9)]
        conv => lhs; unfold chgS
        rw [ek]
      have er : fillR a hole (.t3 h x y z) u = .t3 h (fillR a hole x (u + bindN h.k 0)) (fillR a hole y (u + bindN h.k 1)) (fillR a hole z (u + bindN h.k 2)) := by
        conv => lhs; unfold fillR
        rw [if_neg h1]
      have ed : dedH hole (a.cnt - 1) (.t3 h x y z) u = dedH hole (a.cnt - 1) x (u + bindN h.k 0) + dedH hole (a.cnt - 1) y (u + bindN h.k 1) + dedH hole (a.cnt - 1) z (u + bindN h.k 2) := by
        conv => lhs; unfold dedH
        rw [if_neg h1]
      rw [e]
      generalize chgS (knowH a hole) x (u + bindN h.k 0) r = rx at *
      generalize chgS (knowH a hole) y (u + bindN h.k 1) rx.2 = ry at *
      generalize chgS (knowH a hole) z (u + bindN h.k 2) ry.2 = rz at *
      have hx := X.room
      have hy := Y.room
      have hw := W.room
      refine ⟨by rw [ed]; show rz.2 = _; omega, fun hg => ?_, fun h0 hb => ?_⟩
      · have hg : 0 ≤ rz.2 := hg
        show join3 h rx.1 ry.1 rz.1 = _
        rw [X.good (by omega), Y.good (by omega), W.good hg, er, join3_fit h _ _ _ hk]
      · have hb : rz.2 < 0 := hb
        show join3 h rx.1 ry.1 rz.1 = _
        refine join3_none h _ _ _ ?_
        by_cases e0 : 0 ≤ rx.2
        · by_cases e1 : 0 ≤ ry.2
          · exact .inr (.inr (W.bad e1 hb))
          · exact .inr (.inl (Y.bad e0 (by omega)))
        · exact .inl (X.bad h0 (by omega))
/-- Both put alike: the program's room is spent just where the tree is too great. -/
theorem fill_both (a : Tt) (hole : Int) (T : Tt) (ha : a.all varP) (hac : a.cnt ≤ 20000) (hT : T.all holeP) (hc : T.cnt ≤ 20000) : (chgS (knowH a hole) T 0 (20000 - (T.cnt : Int))).1 = fitT (fillR a hole T 0) := by
  have P := fill_ok a hole ha hac T 0 (20000 - (T.cnt : Int)) hT hc
  have hr := P.room
  by_cases h : 0 ≤ (chgS (knowH a hole) T 0 (20000 - (T.cnt : Int))).2
  · exact P.good h
  · rw [P.bad (by omega) (by omega)]
    exact (fit_big (.inr (by rw [fillR_cnt]; omega))).symm
end Go.Proofs.YtjkkojefpecbfaaGreat
