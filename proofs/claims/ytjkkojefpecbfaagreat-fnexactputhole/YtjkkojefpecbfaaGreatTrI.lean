/- Trees of the specification's that may be too great. No program is walked here. -/
import Derived.Test.YtjkkojefpecbfaaGreatTrE
import Derived.Test.YtjkkojefpecbfaaGreatTMkG
namespace Go.Proofs.YtjkkojefpecbfaaGreat

/-- What the root of a tree keeps of it, where it may be too great. -/
def Tt.zG : Tt → Zs
  | .t0 h => zmkG h.k h.n []
  | .t1 h a => zmkG h.k h.n [a.zG]
  | .t2 h a b => zmkG h.k h.n [a.zG, b.zG]
  | .t3 h a b c => zmkG h.k h.n [a.zG, b.zG, c.zG]
/-- Only what has no kids is a variable. -/
def leafP (h : Hd) (c : Nat) : Prop := 1 ≤ c → h.k ≠ 1
theorem var_leaf (h : Hd) (c : Nat) (hp : varP h c) : leafP h c := hp.2
def Tt.big (T : Tt) : Prop := T.far = true ∨ 20000 < T.cnt
theorem zmkG_sz (k n : Int) (zs : List Zs) (hk : k ≠ 1) : (zmkG k n zs).sz = if 20000 < 1 + sumZ zs then 20001 else 1 + sumZ zs := by
  unfold zmkG
  rw [if_neg (fun h => hk h.1)]
  rfl
/-- A tree is too great just where its root says so. -/
theorem zG_sz : ∀ T : Tt, T.all leafP → (T.big → T.zG.sz = 20001) ∧ (¬ T.big → T.zG.sz = T.cnt)
  | .t0 h, _ => by
    unfold Tt.big
    by_cases h1 : h.k = 1 ∧ 20000 < h.n
    · refine ⟨fun _ => ?_, fun hb => absurd (.inl (by simp [Tt.far, h1])) hb⟩
      simp only [Tt.zG, zmkG]
      rw [if_pos h1]
      rfl
    · refine ⟨fun hb => ?_, fun _ => ?_⟩
      · exfalso
        rcases hb with hb | hb
        · simp only [Tt.far, Bool.and_eq_true, decide_eq_true_eq] at hb
          exact h1 hb
        · simp only [Tt.cnt] at hb
          omega
      · simp only [Tt.zG, zmkG]
        rw [if_neg h1]
        rfl
  | .t1 h a, hp => by
    obtain ⟨a1, a2⟩ := zG_sz a hp.2
    have hk : h.k ≠ 1 := hp.1 (by omega)
    have hf : (Tt.t1 h a).far = a.far := by simp [Tt.far, hk]
    have hz : (Tt.t1 h a).zG.sz = if 20000 < 1 + sumZ [a.zG] then 20001 else 1 + sumZ [a.zG] := zmkG_sz _ _ _ hk
    have hS : sumZ [a.zG] = a.zG.sz := by simp only [sumZ]; omega
    generalize sumZ [a.zG] = S at hz hS
    unfold Tt.big at a1 a2 ⊢
    rw [hf, hz]
    simp only [Tt.cnt]
    by_cases ba : a.far = true ∨ 20000 < a.cnt
    · have := a1 ba
      refine ⟨fun _ => by rw [if_pos (by omega)], fun hb => ?_⟩
      exact absurd (ba.elim .inl (fun h => .inr (by omega))) hb
    · have := a2 ba
      refine ⟨fun hb => ?_, fun hb => ?_⟩
      · rw [if_pos]
        rcases hb with hb | hb
        · exact absurd (.inl hb) ba
        · omega
      · rw [if_neg (fun h => hb (.inr (by omega)))]
        omega
  | .t2 h a b, hp => by
    obtain ⟨a1, a2⟩ := zG_sz a hp.2.1
    obtain ⟨b1, b2⟩ := zG_sz b hp.2.2
    have ca := a.cnt_pos
    have cb := b.cnt_pos
    have hk : h.k ≠ 1 := hp.1 (by omega)
    have hf : (Tt.t2 h a b).far = (a.far || b.far) := by simp [Tt.far, hk]
    have hz : (Tt.t2 h a b).zG.sz = if 20000 < 1 + sumZ [a.zG, b.zG] then 20001 else 1 + sumZ [a.zG, b.zG] := zmkG_sz _ _ _ hk
    have hS : sumZ [a.zG, b.zG] = a.zG.sz + b.zG.sz := by simp only [sumZ]; omega
    generalize sumZ [a.zG, b.zG] = S at hz hS
    unfold Tt.big at a1 a2 b1 b2 ⊢
    rw [hf, hz]
    simp only [Tt.cnt, Bool.or_eq_true]
    by_cases ba : a.far = true ∨ 20000 < a.cnt
    · have ea := a1 ba
      have hbig : (a.far = true ∨ b.far = true) ∨ 20000 < a.cnt + b.cnt + 1 := ba.elim (fun h => .inl (.inl h)) (fun h => .inr (by omega))
      have hb0 : 1 ≤ b.zG.sz := by
        by_cases bb : b.far = true ∨ 20000 < b.cnt
        · have := b1 bb; omega
        · have := b2 bb; omega
      exact ⟨fun _ => by rw [if_pos (by omega)], fun hb => absurd hbig hb⟩
    · have ea := a2 ba
      by_cases bb : b.far = true ∨ 20000 < b.cnt
      · have eb := b1 bb
        have hbig : (a.far = true ∨ b.far = true) ∨ 20000 < a.cnt + b.cnt + 1 := bb.elim (fun h => .inl (.inr h)) (fun h => .inr (by omega))
        exact ⟨fun _ => by rw [if_pos (by omega)], fun hb => absurd hbig hb⟩
      · have eb := b2 bb
        refine ⟨fun hb => ?_, fun hb => ?_⟩
        · rw [if_pos]
          rcases hb with (hb | hb) | hb
          · exact absurd (.inl hb) ba
          · exact absurd (.inl hb) bb
          · omega
        · rw [if_neg (fun h => hb (.inr (by omega)))]
          omega
  | .t3 h a b c, hp => by
    obtain ⟨a1, a2⟩ := zG_sz a hp.2.1
    obtain ⟨b1, b2⟩ := zG_sz b hp.2.2.1
    obtain ⟨c1, c2⟩ := zG_sz c hp.2.2.2
    have ca := a.cnt_pos
    have cb := b.cnt_pos
    have cc := c.cnt_pos
    have hk : h.k ≠ 1 := hp.1 (by omega)
    have hf : (Tt.t3 h a b c).far = (a.far || b.far || c.far) := by simp [Tt.far, hk]
    have hz : (Tt.t3 h a b c).zG.sz = if 20000 < 1 + sumZ [a.zG, b.zG, c.zG] then 20001 else 1 + sumZ [a.zG, b.zG, c.zG] := zmkG_sz _ _ _ hk
    have hS : sumZ [a.zG, b.zG, c.zG] = a.zG.sz + b.zG.sz + c.zG.sz := by simp only [sumZ]; omega
    generalize sumZ [a.zG, b.zG, c.zG] = S at hz hS
    unfold Tt.big at a1 a2 b1 b2 c1 c2 ⊢
    rw [hf, hz]
    simp only [Tt.cnt, Bool.or_eq_true]
    have pos : ∀ (T : Tt), 1 ≤ T.cnt → ((T.far = true ∨ 20000 < T.cnt) → T.zG.sz = 20001) → (¬ (T.far = true ∨ 20000 < T.cnt) → T.zG.sz = T.cnt) → 1 ≤ T.zG.sz := fun T h0 h1 h2 => by
      by_cases bb : T.far = true ∨ 20000 < T.cnt
      · have := h1 bb; omega
      · have := h2 bb; omega
    have pa := pos a ca a1 a2
    have pb := pos b cb b1 b2
    have pc := pos c cc c1 c2
    by_cases ba : a.far = true ∨ 20000 < a.cnt
    · have ea := a1 ba
      have hbig : ((a.far = true ∨ b.far = true) ∨ c.far = true) ∨ 20000 < a.cnt + b.cnt + c.cnt + 1 := ba.elim (fun h => .inl (.inl (.inl h))) (fun h => .inr (by omega))
      exact ⟨fun _ => by rw [if_pos (by omega)], fun hb => absurd hbig hb⟩
    · have ea := a2 ba
      by_cases bb : b.far = true ∨ 20000 < b.cnt
      · have eb := b1 bb
        have hbig : ((a.far = true ∨ b.far = true) ∨ c.far = true) ∨ 20000 < a.cnt + b.cnt + c.cnt + 1 := bb.elim (fun h => .inl (.inl (.inr h))) (fun h => .inr (by omega))
        exact ⟨fun _ => by rw [if_pos (by omega)], fun hb => absurd hbig hb⟩
      · have eb := b2 bb
        by_cases bc : c.far = true ∨ 20000 < c.cnt
        · have ec := c1 bc
          have hbig : ((a.far = true ∨ b.far = true) ∨ c.far = true) ∨ 20000 < a.cnt + b.cnt + c.cnt + 1 := bc.elim (fun h => .inl (.inr h)) (fun h => .inr (by omega))
          exact ⟨fun _ => by rw [if_pos (by omega)], fun hb => absurd hbig hb⟩
        · have ec := c2 bc
          refine ⟨fun hb => ?_, fun hb => ?_⟩
          · rw [if_pos]
            rcases hb with ((hb | hb) | hb) | hb
            · exact absurd (.inl hb) ba
            · exact absurd (.inl hb) bb
            · exact absurd (.inl hb) bc
            · omega
          · rw [if_neg (fun h => hb (.inr (by omega)))]
            omega
theorem zmkG_eq (k n : Int) (zs : List Zs) (hn : k = 1 → n ≤ 20000) (hs : 1 + sumZ zs ≤ 20000) : zmkG k n zs = zmk k n zs := by
  unfold zmkG
  rw [if_neg (fun h => by have := hn h.1; omega)]
  unfold zsat
  rw [if_neg (by show ¬ 20000 < 1 + sumZ zs; omega)]
/-- A tree that is not too great keeps what it kept. -/
theorem zG_eq : ∀ T : Tt, T.all varP → T.cnt ≤ 20000 → T.zG = T.z
  | .t0 h, hp, hc => zmkG_eq _ _ _ (fun e => (hp.1 e).1) (by simp [sumZ])
  | .t1 h a, hp, hc => by
    simp only [Tt.cnt] at hc
    have ea := zG_eq a hp.2 (by omega)
    have sa := a.z_sz
    simp only [Tt.zG, Tt.z]
    rw [ea]
    exact zmkG_eq _ _ _ (fun e => (hp.1.1 e).1) (by simp only [sumZ]; omega)
  | .t2 h a b, hp, hc => by
    simp only [Tt.cnt] at hc
    have ea := zG_eq a hp.2.1 (by omega)
    have eb := zG_eq b hp.2.2 (by omega)
    have sa := a.z_sz
    have sb := b.z_sz
    simp only [Tt.zG, Tt.z]
    rw [ea, eb]
    exact zmkG_eq _ _ _ (fun e => (hp.1.1 e).1) (by simp only [sumZ]; omega)
  | .t3 h a b c, hp, hc => by
    simp only [Tt.cnt] at hc
    have ea := zG_eq a hp.2.1 (by omega)
    have eb := zG_eq b hp.2.2.1 (by omega)
    have ec := zG_eq c hp.2.2.2 (by omega)
    have sa := a.z_sz
    have sb := b.z_sz
    have sc := c.z_sz
    simp only [Tt.zG, Tt.z]
    rw [ea, eb, ec]
    exact zmkG_eq _ _ _ (fun e => (hp.1.1 e).1) (by simp only [sumZ]; omega)
end Go.Proofs.YtjkkojefpecbfaaGreat

/- What the program's fold over nodes makes of a tree: some nodes are known at once, the others are made anew of their kids. No program is walked here. -/
namespace Go.Proofs.YtjkkojefpecbfaaGreat

def join1 (h : Hd) : Option Tt → Option Tt
  | some a => sizedT (.t1 h a)
  | none => none
def join2 (h : Hd) : Option Tt → Option Tt → Option Tt
  | some a, some b => sizedT (.t2 h a b)
  | _, _ => none
def join3 (h : Hd) : Option Tt → Option Tt → Option Tt → Option Tt
  | some a, some b, some c => sizedT (.t3 h a b c)
  | _, _, _ => none
/-- A tree made anew, with something that is counted along the way. `know` answers at once or not. -/
def chgS {S : Type} (know : Tt → Int → S → Option (Option Tt) × S) : Tt → Int → S → Option Tt × S
  | .t0 h, u, s => match know (.t0 h) u s with
    | (some r, s1) => (r, s1)
    | (none, s1) => (sizedT (.t0 h), s1)
  | .t1 h a, u, s => match know (.t1 h a) u s with
    | (some r, s1) => (r, s1)
    | (none, s1) => (join1 h (chgS know a (u + bindN h.k 0) s1).1, (chgS know a (u + bindN h.k 0) s1).2)
  | .t2 h a b, u, s => match know (.t2 h a b) u s with
    | (some r, s1) => (r, s1)
    | (none, s1) =>
      let x := chgS know a (u + bindN h.k 0) s1
      let y := chgS know b (u + bindN h.k 1) x.2
      (join2 h x.1 y.1, y.2)
  | .t3 h a b c, u, s => match know (.t3 h a b c) u s with
    | (some r, s1) => (r, s1)
    | (none, s1) =>
      let x := chgS know a (u + bindN h.k 0) s1
      let y := chgS know b (u + bindN h.k 1) x.2
      let z := chgS know c (u + bindN h.k 2) y.2
      (join3 h x.1 y.1 z.1, z.2)
/-- What the program's lifting knows at once. -/
def knowL (f by' : Int) (T : Tt) (u : Int) (s : Unit) : Option (Option Tt) × Unit :=
  if T.z.lo ≤ f + u then (some (some T), s)
  else if T.hd.k = 1 then (some (if 20000 < T.hd.n + by' then none else some (varT (T.hd.n + by'))), s)
  else (none, s)
theorem chg_lift (f by' : Int) : ∀ (T : Tt) (u : Int), T.all leafP → chgS (knowL f by') T u () = (liftO by' T (f + u), ())
  | .t0 h, u, hp => by
    unfold chgS liftO knowL
    by_cases h1 : (Tt.t0 h).z.lo ≤ f + u
    · simp [h1]
    · by_cases h2 : h.k = 1
      · simp [h1, h2, Tt.hd]
        rfl
      · simp [h1, h2, Tt.hd, sizedT, Tt.cnt]
  | .t1 h a, u, hp => by
    have hk : h.k ≠ 1 := hp.1 (by omega)
    have ea := chg_lift f by' a (u + bindN h.k 0) hp.2
    unfold chgS liftO
    by_cases h1 : (Tt.t1 h a).z.lo ≤ f + u
    · simp [knowL, h1]
    · simp only [knowL, h1, if_false, Tt.hd, hk]
      rw [ea, show f + (u + bindN h.k 0) = f + u + bindN h.k 0 by omega]
      cases liftO by' a (f + u + bindN h.k 0) <;> rfl
  | .t2 h a b, u, hp => by
    have hk : h.k ≠ 1 := hp.1 (by omega)
    have ea := chg_lift f by' a (u + bindN h.k 0) hp.2.1
    have eb := chg_lift f by' b (u + bindN h.k 1) hp.2.2
    unfold chgS liftO
    by_cases h1 : (Tt.t2 h a b).z.lo ≤ f + u
    · simp [knowL, h1]
    · simp only [knowL, h1, if_false, Tt.hd, hk]
      rw [ea, eb, show f + (u + bindN h.k 0) = f + u + bindN h.k 0 by omega, show f + (u + bindN h.k 1) = f + u + bindN h.k 1 by omega]
      cases liftO by' a (f + u + bindN h.k 0) <;> cases liftO by' b (f + u + bindN h.k 1) <;> rfl
  | .t3 h a b c, u, hp => by
    have hk : h.k ≠ 1 := hp.1 (by omega)
    have ea := chg_lift f by' a (u + bindN h.k 0) hp.2.1
    have eb := chg_lift f by' b (u + bindN h.k 1) hp.2.2.1
    have ec := chg_lift f by' c (u + bindN h.k 2) hp.2.2.2
    unfold chgS liftO
    by_cases h1 : (Tt.t3 h a b c).z.lo ≤ f + u
    · simp [knowL, h1]
    · simp only [knowL, h1, if_false, Tt.hd, hk]
      rw [ea, eb, ec, show f + (u + bindN h.k 0) = f + u + bindN h.k 0 by omega, show f + (u + bindN h.k 1) = f + u + bindN h.k 1 by omega, show f + (u + bindN h.k 2) = f + u + bindN h.k 2 by omega]
      cases liftO by' a (f + u + bindN h.k 0) <;> cases liftO by' b (f + u + bindN h.k 1) <;> cases liftO by' c (f + u + bindN h.k 2) <;> rfl
/-- The program's lifting of a valid tree is the specification's, or nothing where that is too great. -/
theorem chg_liftR (f by' : Int) (T : Tt) (u : Int) (hp : T.all varP) (hc : T.cnt ≤ 20000) : (chgS (knowL f by') T u ()).1 = if (liftR by' T (f + u)).far = true then none else some (liftR by' T (f + u)) := by
  rw [chg_lift f by' T u (all_mono var_leaf hp), lift_both by' T (f + u) hp hc]
end Go.Proofs.YtjkkojefpecbfaaGreat

/- Putting a tree for a variable, as the specification and as the program do it (the program counts its room ahead of lifting). No program is walked here. -/
namespace Go.Proofs.YtjkkojefpecbfaaGreat

/-- A tree, or nothing where it is too great. -/
def fitT (T : Tt) : Option Tt := if T.far = true then none else sizedT T
theorem fit_big {T : Tt} (h : T.big) : fitT T = none := by
  unfold fitT sizedT
  rcases h with h | h
  · rw [if_pos h]
  · split
    · rfl
    · rw [if_neg (by omega)]
theorem fit_ok {T : Tt} (h : ¬ T.big) : fitT T = some T := by
  unfold fitT sizedT
  rw [if_neg (fun e => h (.inl e)), if_pos (by have : ¬ 20000 < T.cnt := fun e => h (.inr e); omega)]
theorem size_fit {T : Tt} (h : T.far = false) : sizedT T = fitT T := by unfold fitT; rw [if_neg (by simp [h])]
theorem fit_sub {T A : Tt} (hf : A.far = true → T.far = true) (hc : A.cnt ≤ T.cnt) (h : A.big) : T.big := h.elim (fun e => .inl (hf e)) (fun e => .inr (by omega))
theorem far_of {T : Tt} (h : ¬ T.big) : T.far = false := by
  cases e : T.far
  · rfl
  · exact absurd (.inl e) h
theorem join1_fit (h : Hd) (a : Tt) (hk : h.k ≠ 1) : join1 h (fitT a) = fitT (.t1 h a) := by
  by_cases ba : a.big
  · rw [fit_big ba, fit_big (fit_sub (T := .t1 h a) (A := a) (fun e => by simp [Tt.far, e]) (by simp [Tt.cnt]) ba)]
    rfl
  · rw [fit_ok ba]
    show sizedT _ = _
    refine size_fit ?_
    have ea : a.far = false := far_of ba
    simp [Tt.far, hk, ea]
theorem join2_fit (h : Hd) (a b : Tt) (hk : h.k ≠ 1) : join2 h (fitT a) (fitT b) = fitT (.t2 h a b) := by
  by_cases ba : a.big
  · rw [fit_big ba, fit_big (fit_sub (T := .t2 h a b) (A := a) (fun e => by simp [Tt.far, e]) (by simp [Tt.cnt]; omega) ba)]
    rfl
  · by_cases bb : b.big
    · rw [fit_big bb, fit_big (fit_sub (T := .t2 h a b) (A := b) (fun e => by simp [Tt.far, e]) (by simp [Tt.cnt]; omega) bb)]
      cases fitT a <;> rfl
    · rw [fit_ok ba, fit_ok bb]
      show sizedT _ = _
      refine size_fit ?_
      have ea : a.far = false := far_of ba
      have eb : b.far = false := far_of bb
      simp [Tt.far, hk, ea, eb]
theorem join3_fit (h : Hd) (a b c : Tt) (hk : h.k ≠ 1) : join3 h (fitT a) (fitT b) (fitT c) = fitT (.t3 h a b c) := by
  by_cases ba : a.big
  · rw [fit_big ba, fit_big (fit_sub (T := .t3 h a b c) (A := a) (fun e => by simp [Tt.far, e]) (by simp [Tt.cnt]; omega) ba)]
    rfl
  · by_cases bb : b.big
    · rw [fit_big bb, fit_big (fit_sub (T := .t3 h a b c) (A := b) (fun e => by simp [Tt.far, e]) (by simp [Tt.cnt]; omega) bb)]
      cases fitT a <;> rfl
    · by_cases bc : c.big
      · rw [fit_big bc, fit_big (fit_sub (T := .t3 h a b c) (A := c) (fun e => by simp [Tt.far, e]) (by simp [Tt.cnt]; omega) bc)]
        cases fitT a <;> cases fitT b <;> rfl
      · rw [fit_ok ba, fit_ok bb, fit_ok bc]
        show sizedT _ = _
        refine size_fit ?_
        have ea : a.far = false := far_of ba
        have eb : b.far = false := far_of bb
        have ec : c.far = false := far_of bc
        simp [Tt.far, hk, ea, eb, ec]
theorem join2_none (h : Hd) (x y : Option Tt) (e : x = none ∨ y = none) : join2 h x y = none := by
  rcases e with rfl | rfl
  · rfl
  · cases x <;> rfl
theorem join3_none (h : Hd) (x y z : Option Tt) (e : x = none ∨ y = none ∨ z = none) : join3 h x y z = none := by
  rcases e with rfl | rfl | rfl
  · rfl
  · cases x <;> rfl
  · cases x <;> cases y <;> rfl
theorem fit_self {T : Tt} (hp : T.all varP) (hc : T.cnt ≤ 20000) : fitT T = some T := fit_ok (fun h => h.elim (fun e => by rw [far_no T hp] at e; cases e) (fun e => by omega))
end Go.Proofs.YtjkkojefpecbfaaGreat
