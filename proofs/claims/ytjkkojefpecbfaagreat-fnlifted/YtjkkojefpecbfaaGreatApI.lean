/- A tree of valid nodes that is small enough is a valid term. No program is walked here. -/
import Derived.Test.YtjkkojefpecbfaaGreatTrK
import Derived.Test.YtjkkojefpecbfaaGreatDrB
import Derived.Test.YtjkkojefpecbfaaGreatSpF
import Derived.Test.YtjkkojefpecbfaaGreatDrK
import Derived.Test.YtjkkojefpecbfaaGreatTrE
import Derived.Test.YtjkkojefpecbfaaGreatUsD
import Derived.Test.YtjkkojefpecbfaaGreatFoA
import Derived.Test.YtjkkojefpecbfaaGreatTeF
namespace Go.Proofs.YtjkkojefpecbfaaGreat
open Go.ChangeShapes Go.WideShapes Go.ChangeAt Go.RowKit

theorem step_kids {ts : List Td} {o : Nat} {st roots : List Int} {h : Hd} (hr : trun (tfieldsB nameB) ts o = some (st ++ roots)) (hn : ts[o]? = some (h.td roots)) (hp : nodeP h roots.length) : trun (tfieldsB nameB) ts (o + 1) = some (st ++ [(o : Int)]) := by
  obtain ⟨h1, h2⟩ := hp
  have hk : tkidsN (h.td roots).k = (roots.length : Int) := h1.symm
  have hz : (st ++ roots).length - (tkidsN (h.td roots).k).toNat = st.length := by rw [hk, List.length_append]; simp
  simp only [trun, hr, hn]
  have h2' : tfieldsB nameB (h.td roots) = true := h2
  rw [tstep_some _ (by rw [hk]; omega) (by rw [hk, List.length_append]; omega) h2' (by rw [hz, List.drop_left]; rfl), hz, List.take_left]
theorem trun_flat : ∀ (T : Tt) (o : Nat), T.all nodeP → ∀ (ts : List Td) (st : List Int), (∀ i td, (T.flat o)[i]? = some td → ts[o + i]? = some td) → trun (tfieldsB nameB) ts o = some st → trun (tfieldsB nameB) ts (o + T.cnt) = some (st ++ [((o + T.cnt : Nat) : Int) - 1])
  | .t0 h, o, hp, ts, st, hn, hr => by
    have h0 : ts[o]? = some (h.td []) := hn 0 (h.td []) rfl
    have hs := step_kids (st := st) (roots := []) (h := h) (by rw [List.append_nil]; exact hr) h0 hp
    show trun _ ts (o + 1) = _
    rw [hs]
    simp only [Tt.cnt]
    rw [show (((o + 1 : Nat) : Int) - 1) = (o : Int) by omega]
  | .t1 h a, o, hp, ts, st, hn, hr => by
    have l1 := a.flat_len o
    have e : o + (Tt.t1 h a).cnt = (o + a.cnt) + 1 := by simp only [Tt.cnt]; omega
    have ih := trun_flat a o hp.2 ts st (fun i nd hi => hn i nd (by simp only [Tt.flat]; exact get_left _ hi)) hr
    have h0 := hn a.cnt (h.td [((o + a.cnt : Nat) : Int) - 1]) (by simp only [Tt.flat]; rw [List.getElem?_append_right (by omega), l1]; simp)
    have hs := step_kids (st := st) (roots := [((o + a.cnt : Nat) : Int) - 1]) (h := h) ih h0 hp.1
    rw [e, hs, show (((o + a.cnt + 1 : Nat) : Int) - 1) = ((o + a.cnt : Nat) : Int) by omega]
  | .t2 h a b, o, hp, ts, st, hn, hr => by
    have l1 := a.flat_len o
    have l2 := b.flat_len (o + a.cnt)
    have e : o + (Tt.t2 h a b).cnt = (o + a.cnt + b.cnt) + 1 := by simp only [Tt.cnt]; omega
    have ih := trun_flat a o hp.2.1 ts st (fun i nd hi => hn i nd (by simp only [Tt.flat]; exact get_left _ (get_left _ hi))) hr
    have ih2 := trun_flat b (o + a.cnt) hp.2.2 ts _ (fun i nd hi => by
      have := hn (a.cnt + i) nd (by simp only [Tt.flat]; have := get_left [h.td [((o + a.cnt : Nat) : Int) - 1, ((o + a.cnt + b.cnt : Nat) : Int) - 1]] (get_right (a.flat o) hi); rwa [l1] at this)
      rwa [← Nat.add_assoc] at this) ih
    have h0 := hn (a.cnt + b.cnt) (h.td [((o + a.cnt : Nat) : Int) - 1, ((o + a.cnt + b.cnt : Nat) : Int) - 1]) (by simp only [Tt.flat]; rw [List.getElem?_append_right (by simp; omega)]; simp [l1, l2])
    rw [← Nat.add_assoc] at h0
    have hs := step_kids (st := st) (roots := [((o + a.cnt : Nat) : Int) - 1, ((o + a.cnt + b.cnt : Nat) : Int) - 1]) (h := h) (by rw [ih2, List.append_assoc]; rfl) h0 hp.1
    rw [e, hs, show (((o + a.cnt + b.cnt + 1 : Nat) : Int) - 1) = ((o + a.cnt + b.cnt : Nat) : Int) by omega]
  | .t3 h a b c, o, hp, ts, st, hn, hr => by
    have l1 := a.flat_len o
    have l2 := b.flat_len (o + a.cnt)
    have l3 := c.flat_len (o + a.cnt + b.cnt)
    have e : o + (Tt.t3 h a b c).cnt = (o + a.cnt + b.cnt + c.cnt) + 1 := by simp only [Tt.cnt]; omega
    have ih := trun_flat a o hp.2.1 ts st (fun i nd hi => hn i nd (by simp only [Tt.flat]; exact get_left _ (get_left _ (get_left _ hi)))) hr
    have ih2 := trun_flat b (o + a.cnt) hp.2.2.1 ts _ (fun i nd hi => by
      have := hn (a.cnt + i) nd (by simp only [Tt.flat]; have := get_left [h.td [((o + a.cnt : Nat) : Int) - 1, ((o + a.cnt + b.cnt : Nat) : Int) - 1, ((o + a.cnt + b.cnt + c.cnt : Nat) : Int) - 1]] (get_left (c.flat (o + a.cnt + b.cnt)) (get_right (a.flat o) hi)); rwa [l1] at this)
      rwa [← Nat.add_assoc] at this) ih
    have ih3 := trun_flat c (o + a.cnt + b.cnt) hp.2.2.2 ts _ (fun i nd hi => by
      have := hn (a.cnt + b.cnt + i) nd (by simp only [Tt.flat]; have := get_left [h.td [((o + a.cnt : Nat) : Int) - 1, ((o + a.cnt + b.cnt : Nat) : Int) - 1, ((o + a.cnt + b.cnt + c.cnt : Nat) : Int) - 1]] (get_right (a.flat o ++ b.flat (o + a.cnt)) hi); rwa [List.length_append, l1, l2] at this)
      rwa [← Nat.add_assoc, ← Nat.add_assoc] at this) ih2
    have h0 := hn (a.cnt + b.cnt + c.cnt) (h.td [((o + a.cnt : Nat) : Int) - 1, ((o + a.cnt + b.cnt : Nat) : Int) - 1, ((o + a.cnt + b.cnt + c.cnt : Nat) : Int) - 1]) (by simp only [Tt.flat]; rw [List.getElem?_append_right (by simp; omega)]; simp [l1, l2, l3, show a.cnt + b.cnt + c.cnt - (a.cnt + (b.cnt + c.cnt)) = 0 by omega])
    rw [← Nat.add_assoc, ← Nat.add_assoc] at h0
    have hs := step_kids (st := st) (roots := [((o + a.cnt : Nat) : Int) - 1, ((o + a.cnt + b.cnt : Nat) : Int) - 1, ((o + a.cnt + b.cnt + c.cnt : Nat) : Int) - 1]) (h := h) (by rw [ih3, List.append_assoc, List.append_assoc]; rfl) h0 hp.1
    rw [e, hs, show (((o + a.cnt + b.cnt + c.cnt + 1 : Nat) : Int) - 1) = ((o + a.cnt + b.cnt + c.cnt : Nat) : Int) by omega]
/-- A small tree of valid nodes is a valid term. -/
theorem flat_term {T : Tt} (h : T.all nodeP) (hc : T.cnt ≤ 20000) : termB (T.flat 0) = true := by
  have hr := trun_flat T 0 h (T.flat 0) [] (fun i td hi => by rw [Nat.zero_add]; exact hi) rfl
  simp only [termB, termB', Bool.and_eq_true, decide_eq_true_eq]
  refine ⟨by rw [Tt.flat_len]; exact hc, ?_⟩
  rw [Tt.flat_len, show T.cnt = 0 + T.cnt by omega, hr]
  simp
end Go.Proofs.YtjkkojefpecbfaaGreat

/- What FnSpine asks of the drawn term's parts. No program is walked here. -/
namespace Go.Proofs.YtjkkojefpecbfaaGreat
open Go.ChangeShapes Go.WideShapes Go.ChangeAt Go.RowKit

theorem all_flat {P : Hd → Nat → Prop} : ∀ (T : Tt) (o : Nat), (∀ td ∈ T.flat o, P td.hd td.kids.length) → T.all P
  | .t0 h, o, hm => hm (h.td []) (by simp [Tt.flat])
  | .t1 h a, o, hm => ⟨hm (h.td [_]) (by simp only [Tt.flat]; exact List.mem_append_right _ (List.mem_singleton.2 rfl)), all_flat a o (fun td q => hm td (by simp only [Tt.flat]; exact List.mem_append_left _ q))⟩
  | .t2 h a b, o, hm => ⟨hm (h.td [_, _]) (by simp only [Tt.flat]; exact List.mem_append_right _ (List.mem_singleton.2 rfl)), all_flat a o (fun td q => hm td (by simp only [Tt.flat]; exact List.mem_append_left _ (List.mem_append_left _ q))), all_flat b _ (fun td q => hm td (by simp only [Tt.flat]; exact List.mem_append_left _ (List.mem_append_right _ q)))⟩
  | .t3 h a b c, o, hm => ⟨hm (h.td [_, _, _]) (by simp only [Tt.flat]; exact List.mem_append_right _ (List.mem_singleton.2 rfl)), all_flat a o (fun td q => hm td (by simp only [Tt.flat]; exact List.mem_append_left _ (List.mem_append_left _ (List.mem_append_left _ q)))), all_flat b _ (fun td q => hm td (by simp only [Tt.flat]; exact List.mem_append_left _ (List.mem_append_left _ (List.mem_append_right _ q)))), all_flat c _ (fun td q => hm td (by simp only [Tt.flat]; exact List.mem_append_left _ (List.mem_append_right _ q)))⟩
/-- A head that is small. -/
def szP (h : Hd) (_ : Nat) : Prop := h.s.size ≤ 1000 ∧ h.lv.length ≤ 3 ∧ (∀ l ∈ h.lv, lvlB l = true ∨ (l.length ≤ 1000 ∧ SmallS l)) ∧ ∀ l ∈ h.lv, lvlB l = true ∨ ∃ σ, l = anyN σ
/-- What the walks ask of a node. -/
def SzT (td : Td) : Prop := TLens td ∧ TSmall td ∧ (spell td.lv).length ≤ 1000000000
theorem szt_flat {T : Tt} (h : T.all szP) : ∀ td ∈ T.flat 0, SzT td := fun td hm => by
  obtain ⟨h1, h2, h3, h4, h5⟩ := flat_mem T 0 h td hm
  exact sz_of ⟨h2, h3, by omega⟩ h4 h5
end Go.Proofs.YtjkkojefpecbfaaGreat

/- What FnLifted and FnHolePut say, over trees: a lifted tree with anything put is as before, it does not use the variable, and a hole put and then filled is the putting. No program is walked here. -/
namespace Go.Proofs.YtjkkojefpecbfaaGreat

theorem kindK_of {h : Hd} {c : Nat} (hp : nodeP h c) (hc : 1 ≤ c) : h.k ≠ 1 ∧ h.k ≠ 9 := by
  have h1 := hp.1
  refine ⟨fun e => ?_, fun e => ?_⟩
  · rw [e] at h1
    have : tkidsN 1 = 0 := by decide
    omega
  · rw [e] at h1
    have : tkidsN 9 = 0 := by decide
    omega
theorem bindN_le (k : Int) (j : Nat) : 0 ≤ bindN k j ∧ bindN k j ≤ 1 := by
  unfold bindN
  split <;> omega
theorem last_bind {k : Int} {n j : Nat} {zs : List Zs} (hk : (n : Int) = tkidsN k) (hz : zs.length = n) : (if lastB k zs j = true then (1 : Int) else 0) = bindN k j := by
  unfold lastB bindN
  by_cases hb : bindsB k = true
  · by_cases e : j + 1 = zs.length
    · rw [if_pos (by simp [hb, e]), if_pos ⟨hb, by omega⟩]
    · rw [if_neg (by simp [e]), if_neg (fun q => e (by omega))]
  · rw [if_neg (by simp [hb]), if_neg (fun q => hb q.1)]
theorem lo_t1 {h : Hd} {a : Tt} (hp : nodeP h 1) : (Tt.t1 h a).z.lo = max 0 (a.z.lo - bindN h.k 0) := by
  have hk := (kindK_of hp (by omega)).1
  show loP h.k h.n [a.z] 1 = _
  simp only [loP, freeAt, if_neg hk, last_bind (n := 1) hp.1 (show [a.z].length = 1 from rfl)]
  rfl
theorem lo_t2 {h : Hd} {a b : Tt} (hp : nodeP h 2) : (Tt.t2 h a b).z.lo = max (max 0 (a.z.lo - bindN h.k 0)) (b.z.lo - bindN h.k 1) := by
  have hk := (kindK_of hp (by omega)).1
  show loP h.k h.n [a.z, b.z] 2 = _
  simp only [loP, freeAt, if_neg hk, last_bind (n := 2) hp.1 (show [a.z, b.z].length = 2 from rfl)]
  rfl
theorem lo_t3 {h : Hd} {a b c : Tt} (hp : nodeP h 3) : (Tt.t3 h a b c).z.lo = max (max (max 0 (a.z.lo - bindN h.k 0)) (b.z.lo - bindN h.k 1)) (c.z.lo - bindN h.k 2) := by
  have hk := (kindK_of hp (by omega)).1
  show loP h.k h.n [a.z, b.z, c.z] 3 = _
  simp only [loP, freeAt, if_neg hk, last_bind (n := 3) hp.1 (show [a.z, b.z, c.z].length = 3 from rfl)]
  rfl
theorem lo_t0 (h : Hd) : (Tt.t0 h).z.lo = if h.k = 1 then h.n + 1 else 0 := rfl
/-- A tree that is lifted keeps above what is lifted. -/
theorem lift_gt : ∀ (T : Tt) (f : Int), T.all nodeP → 0 ≤ f → f < T.z.lo → f < (liftR 1 T f).z.lo
  | .t0 h, f, hp, hf, hl => by
    unfold liftR
    rw [if_neg (by omega)]
    rw [lo_t0] at hl
    by_cases e : h.k = 1
    · rw [if_pos e]
      rw [if_pos e] at hl
      show f < if (1 : Int) = 1 then h.n + 1 + 1 else 0
      rw [if_pos rfl]
      omega
    · rw [if_neg e] at hl
      omega
  | .t1 h a, f, hp, hf, hl => by
    unfold liftR
    rw [if_neg (by omega), lo_t1 hp.1]
    rw [lo_t1 hp.1] at hl
    obtain ⟨b0, b1⟩ := bindN_le h.k 0
    have := lift_gt a (f + bindN h.k 0) hp.2 (by omega) (by omega)
    omega
  | .t2 h a b, f, hp, hf, hl => by
    unfold liftR
    rw [if_neg (by omega), lo_t2 hp.1]
    rw [lo_t2 hp.1] at hl
    obtain ⟨b0, b1⟩ := bindN_le h.k 0
    obtain ⟨c0, c1⟩ := bindN_le h.k 1
    by_cases e : f + bindN h.k 0 < a.z.lo
    · have := lift_gt a (f + bindN h.k 0) hp.2.1 (by omega) e
      omega
    · have := lift_gt b (f + bindN h.k 1) hp.2.2 (by omega) (by omega)
      omega
  | .t3 h a b c, f, hp, hf, hl => by
    unfold liftR
    rw [if_neg (by omega), lo_t3 hp.1]
    rw [lo_t3 hp.1] at hl
    obtain ⟨b0, b1⟩ := bindN_le h.k 0
    obtain ⟨c0, c1⟩ := bindN_le h.k 1
    obtain ⟨d0, d1⟩ := bindN_le h.k 2
    by_cases e : f + bindN h.k 0 < a.z.lo
    · have := lift_gt a (f + bindN h.k 0) hp.2.1 (by omega) e
      omega
    · by_cases e2 : f + bindN h.k 1 < b.z.lo
      · have := lift_gt b (f + bindN h.k 1) hp.2.2.1 (by omega) e2
        omega
      · have := lift_gt c (f + bindN h.k 2) hp.2.2.2 (by omega) (by omega)
        omega
theorem lift_same {T : Tt} {f : Int} (h : T.z.lo ≤ f) : liftR 1 T f = T := by
  cases T <;> (unfold liftR; rw [if_pos (.inl h)])
theorem put_same (A : Tt) {T : Tt} {u : Int} (h : T.z.lo ≤ u) : putR A T u = T := by
  cases T <;> (unfold putR; rw [if_pos h])
/-- What is lifted and then put is as before. -/
theorem put_lift (A : Tt) : ∀ (T : Tt) (u : Int), T.all nodeP → 0 ≤ u → putR A (liftR 1 T u) u = T
  | .t0 h, u, hp, hu => by
    by_cases hl : (Tt.t0 h).z.lo ≤ u
    · rw [lift_same hl, put_same A hl]
    · have hv := node_var h 0 hp
      have e : h.k = 1 := Classical.byContradiction (fun q => hl (by rw [lo_t0, if_neg q]; exact hu))
      have hl2 := hl
      rw [lo_t0, if_pos e] at hl2
      unfold liftR
      rw [if_neg (by omega), if_pos e]
      unfold varT putR
      rw [if_neg (by rw [lo_t0]; show ¬ (if (1 : Int) = 1 then h.n + 1 + 1 else 0) ≤ u; rw [if_pos rfl]; omega), if_pos rfl, if_neg (by show ¬ h.n + 1 = u; omega)]
      have e2 := (hv.1 e).2
      unfold varT
      rw [show h.n + 1 - 1 = h.n by omega]
      exact congrArg Tt.t0 e2.symm
  | .t1 h a, u, hp, hu => by
    by_cases hl : (Tt.t1 h a).z.lo ≤ u
    · rw [lift_same hl, put_same A hl]
    · have hg := lift_gt (.t1 h a) u hp hu (by omega)
      have ea := put_lift A a (u + bindN h.k 0) hp.2 (by have := bindN_le h.k 0; omega)
      have e1 : liftR 1 (.t1 h a) u = .t1 h (liftR 1 a (u + bindN h.k 0)) := by rw [liftR, if_neg (by omega)]
      rw [e1] at hg ⊢
      unfold putR
      rw [if_neg (by omega), ea]
  | .t2 h a b, u, hp, hu => by
    by_cases hl : (Tt.t2 h a b).z.lo ≤ u
    · rw [lift_same hl, put_same A hl]
    · have hg := lift_gt (.t2 h a b) u hp hu (by omega)
      have ea := put_lift A a (u + bindN h.k 0) hp.2.1 (by have := bindN_le h.k 0; omega)
      have eb := put_lift A b (u + bindN h.k 1) hp.2.2 (by have := bindN_le h.k 1; omega)
      have e1 : liftR 1 (.t2 h a b) u = .t2 h (liftR 1 a (u + bindN h.k 0)) (liftR 1 b (u + bindN h.k 1)) := by rw [liftR, if_neg (by omega)]
      rw [e1] at hg ⊢
      unfold putR
      rw [if_neg (by omega), ea, eb]
  | .t3 h a b c, u, hp, hu => by
    by_cases hl : (Tt.t3 h a b c).z.lo ≤ u
    · rw [lift_same hl, put_same A hl]
    · have hg := lift_gt (.t3 h a b c) u hp hu (by omega)
      have ea := put_lift A a (u + bindN h.k 0) hp.2.1 (by have := bindN_le h.k 0; omega)
      have eb := put_lift A b (u + bindN h.k 1) hp.2.2.1 (by have := bindN_le h.k 1; omega)
      have ec := put_lift A c (u + bindN h.k 2) hp.2.2.2 (by have := bindN_le h.k 2; omega)
      have e1 : liftR 1 (.t3 h a b c) u = .t3 h (liftR 1 a (u + bindN h.k 0)) (liftR 1 b (u + bindN h.k 1)) (liftR 1 c (u + bindN h.k 2)) := by rw [liftR, if_neg (by omega)]
      rw [e1] at hg ⊢
      unfold putR
      rw [if_neg (by omega), ea, eb, ec]
/-- How often a tree uses a variable. -/
def useR : Tt → Int → Int
  | .t0 h, v => if (Tt.t0 h).z.lo ≤ v then 0 else if h.k = 1 ∧ h.n = v then 1 else 0
  | .t1 h a, v => if (Tt.t1 h a).z.lo ≤ v then 0 else if h.k = 1 ∧ h.n = v then 1 else useR a (v + bindN h.k 0)
  | .t2 h a b, v => if (Tt.t2 h a b).z.lo ≤ v then 0 else if h.k = 1 ∧ h.n = v then 1 else useR a (v + bindN h.k 0) + useR b (v + bindN h.k 1)
  | .t3 h a b c, v => if (Tt.t3 h a b c).z.lo ≤ v then 0 else if h.k = 1 ∧ h.n = v then 1 else useR a (v + bindN h.k 0) + useR b (v + bindN h.k 1) + useR c (v + bindN h.k 2)
theorem use_low {T : Tt} {v : Int} (h : T.z.lo ≤ v) : useR T v = 0 := by
  cases T <;> (unfold useR; rw [if_pos h])
/-- What is lifted does not use the variable. -/
theorem use_lift : ∀ (T : Tt) (u : Int), T.all nodeP → 0 ≤ u → useR (liftR 1 T u) u = 0
  | .t0 h, u, hp, hu => by
    by_cases hl : (Tt.t0 h).z.lo ≤ u
    · rw [lift_same hl, use_low hl]
    · have e : h.k = 1 := Classical.byContradiction (fun q => hl (by rw [lo_t0, if_neg q]; exact hu))
      rw [lo_t0, if_pos e] at hl
      unfold liftR
      rw [if_neg (by rw [lo_t0, if_pos e]; omega), if_pos e]
      unfold varT useR
      split
      · rfl
      · rw [if_neg (fun q => by have : h.n + 1 = u := q.2; omega)]
  | .t1 h a, u, hp, hu => by
    by_cases hl : (Tt.t1 h a).z.lo ≤ u
    · rw [lift_same hl, use_low hl]
    · have ea := use_lift a (u + bindN h.k 0) hp.2 (by have := bindN_le h.k 0; omega)
      have hk := (kindK_of hp.1 (by omega)).1
      unfold liftR
      rw [if_neg (by omega)]
      unfold useR
      split
      · rfl
      · rw [if_neg (fun q => hk q.1), ea]
  | .t2 h a b, u, hp, hu => by
    by_cases hl : (Tt.t2 h a b).z.lo ≤ u
    · rw [lift_same hl, use_low hl]
    · have ea := use_lift a (u + bindN h.k 0) hp.2.1 (by have := bindN_le h.k 0; omega)
      have eb := use_lift b (u + bindN h.k 1) hp.2.2 (by have := bindN_le h.k 1; omega)
      have hk := (kindK_of hp.1 (by omega)).1
      unfold liftR
      rw [if_neg (by omega)]
      unfold useR
      split
      · rfl
      · rw [if_neg (fun q => hk q.1), ea, eb]
        rfl
  | .t3 h a b c, u, hp, hu => by
    by_cases hl : (Tt.t3 h a b c).z.lo ≤ u
    · rw [lift_same hl, use_low hl]
    · have ea := use_lift a (u + bindN h.k 0) hp.2.1 (by have := bindN_le h.k 0; omega)
      have eb := use_lift b (u + bindN h.k 1) hp.2.2.1 (by have := bindN_le h.k 1; omega)
      have ec := use_lift c (u + bindN h.k 2) hp.2.2.2 (by have := bindN_le h.k 2; omega)
      have hk := (kindK_of hp.1 (by omega)).1
      unfold liftR
      rw [if_neg (by omega)]
      unfold useR
      split
      · rfl
      · rw [if_neg (fun q => hk q.1), ea, eb, ec]
        rfl
end Go.Proofs.YtjkkojefpecbfaaGreat

/- How often a tree uses a variable is what is counted over its nodes. No program is walked here. -/
namespace Go.Proofs.YtjkkojefpecbfaaGreat

theorem use_is {ts : List Td} (hk : KidsIn ts ts.length) : ∀ (T : Tt) (o n : Nat) (v : Int), T.cnt ≤ n → (∀ j, j < (T.flat o).length → ts[o + j]? = (T.flat o)[j]?) → usesN ts n (o + T.cnt - 1) v = useR T v
  | .t0 h, o, 0, v, hc, _ => by simp [Tt.cnt] at hc
  | .t0 h, o, n + 1, v, hc, hs => by
    obtain ⟨hi, e⟩ := at_some (hs 0 (by simp [Tt.flat]))
    have hz := zt_is hk (.t0 h) o hs
    have hz : zI (Zt ts) (o : Int) = (Tt.t0 h).z := hz
    have e : ts[o] = h.td [] := e
    show usesN ts (n + 1) o v = _
    rw [usesN_succ ts n o v hi, hz, e]
    unfold useR
    rfl
  | .t1 h a, o, 0, v, hc, _ => by simp [Tt.cnt] at hc
  | .t1 h a, o, n + 1, v, hc, hs => by
    have hz := zt_is hk (.t1 h a) o hs
    simp only [Tt.flat] at hs
    have hl := sub_right hs 0 (by simp)
    rw [a.flat_len] at hl
    obtain ⟨hi, e⟩ := at_some hl
    have hi : o + a.cnt < ts.length := hi
    have e : ts[o + a.cnt] = h.td [((o + a.cnt : Nat) : Int) - 1] := e
    rw [show o + (Tt.t1 h a).cnt - 1 = o + a.cnt by simp only [Tt.cnt]; omega] at hz ⊢
    have hca : a.cnt ≤ n := by simp only [Tt.cnt] at hc; omega
    have ia := use_is hk a o n (v + bindN h.k 0) hca (sub_left hs)
    have pa := a.cnt_pos
    rw [usesN_succ ts n _ v hi, hz, e]
    conv => rhs; unfold useR
    rw [← ia]
    simp only [Hd.td, usesK, upTo, List.length_singleton, List.getD, List.getElem?_cons_zero, Option.getD_some]
    rw [show (((o + a.cnt : Nat) : Int) - 1).toNat = o + a.cnt - 1 by omega]
    simp
  | .t2 h a b, o, 0, v, hc, _ => by simp [Tt.cnt] at hc
  | .t2 h a b, o, n + 1, v, hc, hs => by
    have hz := zt_is hk (.t2 h a b) o hs
    simp only [Tt.flat] at hs
    have hab := sub_left hs
    have hb := sub_right hab
    rw [a.flat_len] at hb
    have hl := sub_right hs 0 (by simp)
    rw [List.length_append, a.flat_len, b.flat_len, ← Nat.add_assoc] at hl
    obtain ⟨hi, e⟩ := at_some hl
    have hi : o + a.cnt + b.cnt < ts.length := hi
    have e : ts[o + a.cnt + b.cnt] = h.td [((o + a.cnt : Nat) : Int) - 1, ((o + a.cnt + b.cnt : Nat) : Int) - 1] := e
    rw [show o + (Tt.t2 h a b).cnt - 1 = o + a.cnt + b.cnt by simp only [Tt.cnt]; omega] at hz ⊢
    simp only [Tt.cnt] at hc
    have ia := use_is hk a o n (v + bindN h.k 0) (by omega) (sub_left hab)
    have ib := use_is hk b (o + a.cnt) n (v + bindN h.k 1) (by omega) hb
    have pa := a.cnt_pos
    have pb := b.cnt_pos
    rw [usesN_succ ts n _ v hi, hz, e]
    conv => rhs; unfold useR
    rw [← ia, ← ib]
    simp only [Hd.td, usesK, upTo, List.length_cons, List.length_nil, List.getD, List.getElem?_cons_zero, List.getElem?_cons_succ, Option.getD_some]
    rw [show (((o + a.cnt : Nat) : Int) - 1).toNat = o + a.cnt - 1 by omega, show (((o + a.cnt + b.cnt : Nat) : Int) - 1).toNat = o + a.cnt + b.cnt - 1 by omega]
    simp
  | .t3 h a b c, o, 0, v, hc, _ => by simp [Tt.cnt] at hc
  | .t3 h a b c, o, n + 1, v, hc, hs => by
    have hz := zt_is hk (.t3 h a b c) o hs
    simp only [Tt.flat] at hs
    have habc := sub_left hs
    have hab := sub_left habc
    have hb := sub_right hab
    have hcc := sub_right habc
    rw [a.flat_len] at hb
    rw [List.length_append, a.flat_len, b.flat_len, ← Nat.add_assoc] at hcc
    have hl := sub_right hs 0 (by simp)
    rw [List.length_append, List.length_append, a.flat_len, b.flat_len, c.flat_len, ← Nat.add_assoc, ← Nat.add_assoc] at hl
    obtain ⟨hi, e⟩ := at_some hl
    have hi : o + a.cnt + b.cnt + c.cnt < ts.length := hi
    have e : ts[o + a.cnt + b.cnt + c.cnt] = h.td [((o + a.cnt : Nat) : Int) - 1, ((o + a.cnt + b.cnt : Nat) : Int) - 1, ((o + a.cnt + b.cnt + c.cnt : Nat) : Int) - 1] := e
    rw [show o + (Tt.t3 h a b c).cnt - 1 = o + a.cnt + b.cnt + c.cnt by simp only [Tt.cnt]; omega] at hz ⊢
    simp only [Tt.cnt] at hc
    have ia := use_is hk a o n (v + bindN h.k 0) (by omega) (sub_left hab)
    have ib := use_is hk b (o + a.cnt) n (v + bindN h.k 1) (by omega) hb
    have ic := use_is hk c (o + a.cnt + b.cnt) n (v + bindN h.k 2) (by omega) hcc
    have pa := a.cnt_pos
    have pb := b.cnt_pos
    have pc := c.cnt_pos
    rw [usesN_succ ts n _ v hi, hz, e]
    conv => rhs; unfold useR
    rw [← ia, ← ib, ← ic]
    simp only [Hd.td, usesK, upTo, List.length_cons, List.length_nil, List.getD, List.getElem?_cons_zero, List.getElem?_cons_succ, Option.getD_some]
    rw [show (((o + a.cnt : Nat) : Int) - 1).toNat = o + a.cnt - 1 by omega, show (((o + a.cnt + b.cnt : Nat) : Int) - 1).toNat = o + a.cnt + b.cnt - 1 by omega, show (((o + a.cnt + b.cnt + c.cnt : Nat) : Int) - 1).toNat = o + a.cnt + b.cnt + c.cnt - 1 by omega]
    simp
end Go.Proofs.YtjkkojefpecbfaaGreat

/- The room that putting counts stays within bounds. No program is walked here. -/
namespace Go.Proofs.YtjkkojefpecbfaaGreat

theorem ded_le (k : Nat) : ∀ (T : Tt) (u : Int), ded k T u ≤ k * T.cnt
  | .t0 h, u => by
    unfold ded
    split
    · omega
    · split <;> simp [Tt.cnt]
  | .t1 h x, u => by
    have := ded_le k x (u + bindN h.k 0)
    unfold ded
    split
    · omega
    · simp only [Tt.cnt, Nat.mul_add]; omega
  | .t2 h x y, u => by
    have := ded_le k x (u + bindN h.k 0)
    have := ded_le k y (u + bindN h.k 1)
    unfold ded
    split
    · omega
    · simp only [Tt.cnt, Nat.mul_add]; omega
  | .t3 h x y z, u => by
    have := ded_le k x (u + bindN h.k 0)
    have := ded_le k y (u + bindN h.k 1)
    have := ded_le k z (u + bindN h.k 2)
    unfold ded
    split
    · omega
    · simp only [Tt.cnt, Nat.mul_add]; omega
/-- What is known of a tree and the room ahead of it. -/
def RoomOk (P : Hd → Nat → Prop) (T : Tt) (r : Int) : Prop := T.all P ∧ T.cnt ≤ 20000 ∧ -1000000000000 + 20000 * (T.cnt : Int) ≤ r ∧ r ≤ 20000
theorem room_le {c d : Nat} {k : Nat} (h : d ≤ k * c) (hk : k ≤ 20000) : (d : Int) ≤ 20000 * (c : Int) := by
  have : k * c ≤ 20000 * c := Nat.mul_le_mul_right c hk
  omega
/-- The room is bound at each kid, where it falls by no more than 20000 for each node. -/
theorem room_kids (P : Hd → Nat → Prop) (know : Tt → Int → Int → Option (Option Tt) × Int) (hr : ∀ (T : Tt) (u r : Int), T.all P → T.cnt ≤ 20000 → (chgS know T u r).2 ≤ r ∧ r - 20000 * (T.cnt : Int) ≤ (chgS know T u r).2) (T : Tt) (u r : Int) (j : Nat) (h : j < T.kids.length) (hp : RoomOk P T r) : RoomOk P T.kids[j] (chgJ know T u r j).2 := by
  obtain ⟨h1, h2, h3, h4⟩ := hp
  cases T with
  | t0 hd => simp [Tt.kids] at h
  | t1 hd x =>
    have e : j = 0 := by simp [Tt.kids] at h; exact h
    subst e
    simp only [Tt.cnt] at h2 h3
    exact ⟨h1.2, by show x.cnt ≤ _; omega, by show _ + 20000 * (x.cnt : Int) ≤ r; omega, h4⟩
  | t2 hd x y =>
    simp only [Tt.cnt] at h2 h3
    have hx := hr x (u + bindN hd.k 0) r h1.2.1 (by omega)
    rcases (show j = 0 ∨ j = 1 by simp [Tt.kids] at h; omega) with rfl | rfl
    · exact ⟨h1.2.1, by show x.cnt ≤ _; omega, by show _ + 20000 * (x.cnt : Int) ≤ r; omega, h4⟩
    · exact ⟨h1.2.2, by show y.cnt ≤ _; omega, by show _ + 20000 * (y.cnt : Int) ≤ (chgS know x (u + bindN hd.k 0) r).2; omega, by show (chgS know x (u + bindN hd.k 0) r).2 ≤ _; omega⟩
  | t3 hd x y z =>
    simp only [Tt.cnt] at h2 h3
    have hx := hr x (u + bindN hd.k 0) r h1.2.1 (by omega)
    have hy := hr y (u + bindN hd.k 1) (chgS know x (u + bindN hd.k 0) r).2 h1.2.2.1 (by omega)
    rcases (show j = 0 ∨ j = 1 ∨ j = 2 by simp [Tt.kids] at h; omega) with rfl | rfl | rfl
    · exact ⟨h1.2.1, by show x.cnt ≤ _; omega, by show _ + 20000 * (x.cnt : Int) ≤ r; omega, h4⟩
    · exact ⟨h1.2.2.1, by show y.cnt ≤ _; omega, by show _ + 20000 * (y.cnt : Int) ≤ (chgS know x (u + bindN hd.k 0) r).2; omega, by show (chgS know x (u + bindN hd.k 0) r).2 ≤ _; omega⟩
    · exact ⟨h1.2.2.2, by show z.cnt ≤ _; omega, by show _ + 20000 * (z.cnt : Int) ≤ (chgS know y (u + bindN hd.k 1) (chgS know x (u + bindN hd.k 0) r).2).2; omega, by show (chgS know y (u + bindN hd.k 1) (chgS know x (u + bindN hd.k 0) r).2).2 ≤ _; omega⟩
theorem put_pre (a : Tt) (ha : a.all varP) (hac : a.cnt ≤ 20000) (T : Tt) (u r s1 : Int) (j : Nat) (h : j < T.kids.length) (hp : RoomOk varP T r) (hk : knowP a T u r = (none, s1)) : RoomOk varP T.kids[j] (chgJ (knowP a) T u s1 j).2 := by
  have e : s1 = r := by
    unfold knowP at hk
    split at hk
    · cases hk
    · split at hk
      · split at hk <;> cases hk
      · exact (Prod.mk.inj hk).2.symm
  subst e
  refine room_kids varP (knowP a) (fun T u r h1 h2 => ?_) T u s1 j h hp
  have h3 := (put_ok a ha hac T u r h1 h2).room
  have h4 := room_le (ded_le (a.cnt - 1) T u) (by omega)
  omega
theorem lo_one {T : Tt} (hp : T.all varP) (hk : T.hd.k = 1) : T.z.lo = T.hd.n + 1 := by
  cases T with
  | t0 h =>
    have hk : h.k = 1 := hk
    show (zmk h.k h.n []).lo = h.n + 1
    simp [zmk, loP, hk]
  | t1 h x => exact absurd hk (hp.1.2 (by omega))
  | t2 h x y => exact absurd hk (hp.1.2 (by omega))
  | t3 h x y z => exact absurd hk (hp.1.2 (by omega))
end Go.Proofs.YtjkkojefpecbfaaGreat

/- What holds of every node stays so by lifting, putting and filling. No program is walked here. -/
namespace Go.Proofs.YtjkkojefpecbfaaGreat

def VarOk (P : Hd → Nat → Prop) : Prop := ∀ n : Int, P ⟨1, n, 0, ⟨#[]⟩, []⟩ 0
theorem lift_all {P : Hd → Nat → Prop} (hv : VarOk P) (by' : Int) : ∀ (T : Tt) (f : Int), T.all P → (liftR by' T f).all P
  | .t0 h, f, hp => by
    unfold liftR
    split
    · exact hp
    · split
      · exact hv _
      · exact hp
  | .t1 h a, f, hp => by
    unfold liftR
    split
    · exact hp
    · exact ⟨hp.1, lift_all hv by' a _ hp.2⟩
  | .t2 h a b, f, hp => by
    unfold liftR
    split
    · exact hp
    · exact ⟨hp.1, lift_all hv by' a _ hp.2.1, lift_all hv by' b _ hp.2.2⟩
  | .t3 h a b c, f, hp => by
    unfold liftR
    split
    · exact hp
    · exact ⟨hp.1, lift_all hv by' a _ hp.2.1, lift_all hv by' b _ hp.2.2.1, lift_all hv by' c _ hp.2.2.2⟩
theorem put_all {P : Hd → Nat → Prop} (hv : VarOk P) (A : Tt) (hA : A.all P) : ∀ (T : Tt) (u : Int), T.all P → (putR A T u).all P
  | .t0 h, u, hp => by
    unfold putR
    split
    · exact hp
    · split
      · split
        · exact lift_all hv u A 0 hA
        · exact hv _
      · exact hp
  | .t1 h a, u, hp => by
    unfold putR
    split
    · exact hp
    · exact ⟨hp.1, put_all hv A hA a _ hp.2⟩
  | .t2 h a b, u, hp => by
    unfold putR
    split
    · exact hp
    · exact ⟨hp.1, put_all hv A hA a _ hp.2.1, put_all hv A hA b _ hp.2.2⟩
  | .t3 h a b c, u, hp => by
    unfold putR
    split
    · exact hp
    · exact ⟨hp.1, put_all hv A hA a _ hp.2.1, put_all hv A hA b _ hp.2.2.1, put_all hv A hA c _ hp.2.2.2⟩
end Go.Proofs.YtjkkojefpecbfaaGreat

/- What the store's apply answers. -/
namespace Go.Proofs.YtjkkojefpecbfaaGreat
open Go.ChangeShapes Go.WideShapes Go.ChangeAt Go.RowKit

theorem app_node : nodeP appH 2 := ⟨by decide, by decide +kernel⟩
theorem var0_node : nodeP ⟨1, 0, 0, ⟨#[]⟩, []⟩ 0 := ⟨by decide, by decide +kernel⟩
end Go.Proofs.YtjkkojefpecbfaaGreat
