/- A tree of valid nodes that is small enough is a valid term. No program is walked here. -/
import Derived.Test.YtjkkojefpecbfaaGreatStX
import Derived.Test.YtjkkojefpecbfaaGreatDrA
import Derived.Test.YtjkkojefpecbfaaGreatDrK
import Derived.Test.YtjkkojefpecbfaaGreatTrE
import Derived.Test.YtjkkojefpecbfaaGreatSpB
namespace Go.Proofs.YtjkkojefpecbfaaGreat
open Go.ChangeShapes Go.WideShapes Go.ChangeAt Go.RowKit

theorem step_kids {ts : List Td} {o : Nat} {st roots : List Int} {h : Hd} (hr : trun (tfieldsB nameB) ts o = some (st ++ roots)) (hn : ts[o]? = some (h.td roots)) (hp : nodeP h roots.length) : trun (tfieldsB nameB) ts (o + 1) = some (st ++ [(o : Int)]) := by
  obtain ⟨h1, h2⟩ := hp
  have hk : tkidsN (h.td roots).k = (roots.length : Int) := h1.symm
  have hz : (st ++ roots).length - (tkidsN (h.td roots).k).toNat = st.length := by rw [hk, List.length_append]; simp
  simp only [trun, hr, hn]
  have h2' : tfieldsB nameB (h.td roots) = true := h2
  rw [tstep_some _ (by rw [hk]; omega) (by rw [hk, List.length_append]; omega) h2' (by rw [hz, List.drop_left]; rfl), hz, List.take_left]
theorem trun_flat : ∀ (T : Tt) (o : Nat), T.all nodeP → ∀ (ts : List Td) (st : List Int), (∀ i td, (T.flat o)[i]? = some td → ts[o + i]? = some td) → trun (tfieldsB nameB) ts o = some st → trun (tfieldsB nameB) ts (o + T.cnt) = some (st ++ [((o + T.cnt : Nat) : Int) - 1])
  | .t0 h, o, hp, ts, st, hn, hr => by
    have h0 : ts[o]? = some (h.td []) := hn 0 (h.td []) rfl
    have hs := step_kids (st := st) (roots := []) (h := h) (by rw [List.append_nil]; exact hr) h0 hp
    show trun _ ts (o + 1) = _
    rw [hs]
    simp only [Tt.cnt]
    rw [show (((o + 1 : Nat) : Int) - 1) = (o : Int) by omega]
  | .t1 h a, o, hp, ts, st, hn, hr => by
    have l1 := a.flat_len o
    have e : o + (Tt.t1 h a).cnt = (o + a.cnt) + 1 := by simp only [Tt.cnt]; omega
    have ih := trun_flat a o hp.2 ts st (fun i nd hi => hn i nd (by simp only [Tt.flat]; exact get_left _ hi)) hr
    have h0 := hn a.cnt (h.td [((o + a.cnt : Nat) : Int) - 1]) (by simp only [Tt.flat]; rw [List.getElem?_append_right (by omega), l1]; simp)
    have hs := step_kids (st := st) (roots := [((o + a.cnt : Nat) : Int) - 1]) (h := h) ih h0 hp.1
    rw [e, hs, show (((o + a.cnt + 1 : Nat) : Int) - 1) = ((o + a.cnt : Nat) : Int) by omega]
  | .t2 h a b, o, hp, ts, st, hn, hr => by
    have l1 := a.flat_len o
    have l2 := b.flat_len (o + a.cnt)
    have e : o + (Tt.t2 h a b).cnt = (o + a.cnt + b.cnt) + 1 := by simp only [Tt.cnt]; omega
    have ih := trun_flat a o hp.2.1 ts st (fun i nd hi => hn i nd (by simp only [Tt.flat]; exact get_left _ (get_left _ hi))) hr
    have ih2 := trun_flat b (o + a.cnt) hp.2.2 ts _ (fun i nd hi => by
      have := hn (a.cnt + i) nd (by simp only [Tt.flat]; have := get_left [h.td [((o + a.cnt : Nat) : Int) - 1, ((o + a.cnt + b.cnt : Nat) : Int) - 1]] (get_right (a.flat o) hi); rwa [l1] at this)
      rwa [← Nat.add_assoc] at this) ih
    have h0 := hn (a.cnt + b.cnt) (h.td [((o + a.cnt : Nat) : Int) - 1, ((o + a.cnt + b.cnt : Nat) : Int) - 1]) (by simp only [Tt.flat]; rw [List.getElem?_append_right (by simp; omega)]; simp [l1, l2])
    rw [← Nat.add_assoc] at h0
    have hs := step_kids (st := st) (roots := [((o + a.cnt : Nat) : Int) - 1, ((o + a.cnt + b.cnt : Nat) : Int) - 1]) (h := h) (by rw [ih2, List.append_assoc]; rfl) h0 hp.1
    rw [e, hs, show (((o + a.cnt + b.cnt + 1 : Nat) : Int) - 1) = ((o + a.cnt + b.cnt : Nat) : Int) by omega]
  | .t3 h a b c, o, hp, ts, st, hn, hr => by
    have l1 := a.flat_len o
    have l2 := b.flat_len (o + a.cnt)
    have l3 := c.flat_len (o + a.cnt + b.cnt)
    have e : o + (Tt.t3 h a b c).cnt = (o + a.cnt + b.cnt + c.cnt) + 1 := by simp only [Tt.cnt]; omega
    have ih := trun_flat a o hp.2.1 ts st (fun i nd hi => hn i nd (by simp only [Tt.flat]; exact get_left _ (get_left _ (get_left _ hi)))) hr
    have ih2 := trun_flat b (o + a.cnt) hp.2.2.1 ts _ (fun i nd hi => by
      have := hn (a.cnt + i) nd (by simp only [Tt.flat]; have := get_left [h.td [((o + a.cnt : Nat) : Int) - 1, ((o + a.cnt + b.cnt : Nat) : Int) - 1, ((o + a.cnt + b.cnt + c.cnt : Nat) : Int) - 1]] (get_left (c.flat (o + a.cnt + b.cnt)) (get_right (a.flat o) hi)); rwa [l1] at this)
      rwa [← Nat.add_assoc] at this) ih
    have ih3 := trun_flat c (o + a.cnt + b.cnt) hp.2.2.2 ts _ (fun i nd hi => by
      have := hn (a.cnt + b.cnt + i) nd (by simp only [Tt.flat]; have := get_left [h.td [((o + a.cnt : Nat) : Int) - 1, ((o + a.cnt + b.cnt : Nat) : Int) - 1, ((o + a.cnt + b.cnt + c.cnt : Nat) : Int) - 1]] (get_right (a.flat o ++ b.flat (o + a.cnt)) hi); rwa [List.length_append, l1, l2] at this)
      rwa [← Nat.add_assoc, ← Nat.add_assoc] at this) ih2
    have h0 := hn (a.cnt + b.cnt + c.cnt) (h.td [((o + a.cnt : Nat) : Int) - 1, ((o + a.cnt + b.cnt : Nat) : Int) - 1, ((o + a.cnt + b.cnt + c.cnt : Nat) : Int) - 1]) (by simp only [Tt.flat]; rw [List.getElem?_append_right (by simp; omega)]; simp [l1, l2, l3, show a.cnt + b.cnt + c.cnt - (a.cnt + (b.cnt + c.cnt)) = 0 by omega])
    rw [← Nat.add_assoc, ← Nat.add_assoc] at h0
    have hs := step_kids (st := st) (roots := [((o + a.cnt : Nat) : Int) - 1, ((o + a.cnt + b.cnt : Nat) : Int) - 1, ((o + a.cnt + b.cnt + c.cnt : Nat) : Int) - 1]) (h := h) (by rw [ih3, List.append_assoc, List.append_assoc]; rfl) h0 hp.1
    rw [e, hs, show (((o + a.cnt + b.cnt + c.cnt + 1 : Nat) : Int) - 1) = ((o + a.cnt + b.cnt + c.cnt : Nat) : Int) by omega]
/-- A small tree of valid nodes is a valid term. -/
theorem flat_term {T : Tt} (h : T.all nodeP) (hc : T.cnt ≤ 20000) : termB (T.flat 0) = true := by
  have hr := trun_flat T 0 h (T.flat 0) [] (fun i td hi => by rw [Nat.zero_add]; exact hi) rfl
  simp only [termB, termB', Bool.and_eq_true, decide_eq_true_eq]
  refine ⟨by rw [Tt.flat_len]; exact hc, ?_⟩
  rw [Tt.flat_len, show T.cnt = 0 + T.cnt by omega, hr]
  simp
end Go.Proofs.YtjkkojefpecbfaaGreat

/- What FnSpine asks of the drawn term's parts. No program is walked here. -/
namespace Go.Proofs.YtjkkojefpecbfaaGreat
open Go.ChangeShapes Go.WideShapes Go.ChangeAt Go.RowKit

theorem all_flat {P : Hd → Nat → Prop} : ∀ (T : Tt) (o : Nat), (∀ td ∈ T.flat o, P td.hd td.kids.length) → T.all P
  | .t0 h, o, hm => hm (h.td []) (by simp [Tt.flat])
  | .t1 h a, o, hm => ⟨hm (h.td [_]) (by simp only [Tt.flat]; exact List.mem_append_right _ (List.mem_singleton.2 rfl)), all_flat a o (fun td q => hm td (by simp only [Tt.flat]; exact List.mem_append_left _ q))⟩
  | .t2 h a b, o, hm => ⟨hm (h.td [_, _]) (by simp only [Tt.flat]; exact List.mem_append_right _ (List.mem_singleton.2 rfl)), all_flat a o (fun td q => hm td (by simp only [Tt.flat]; exact List.mem_append_left _ (List.mem_append_left _ q))), all_flat b _ (fun td q => hm td (by simp only [Tt.flat]; exact List.mem_append_left _ (List.mem_append_right _ q)))⟩
  | .t3 h a b c, o, hm => ⟨hm (h.td [_, _, _]) (by simp only [Tt.flat]; exact List.mem_append_right _ (List.mem_singleton.2 rfl)), all_flat a o (fun td q => hm td (by simp only [Tt.flat]; exact List.mem_append_left _ (List.mem_append_left _ (List.mem_append_left _ q)))), all_flat b _ (fun td q => hm td (by simp only [Tt.flat]; exact List.mem_append_left _ (List.mem_append_left _ (List.mem_append_right _ q)))), all_flat c _ (fun td q => hm td (by simp only [Tt.flat]; exact List.mem_append_left _ (List.mem_append_right _ q)))⟩
/-- A head that is small. -/
def szP (h : Hd) (_ : Nat) : Prop := h.s.size ≤ 1000 ∧ h.lv.length ≤ 3 ∧ (∀ l ∈ h.lv, lvlB l = true ∨ (l.length ≤ 1000 ∧ SmallS l)) ∧ ∀ l ∈ h.lv, lvlB l = true ∨ ∃ σ, l = anyN σ
/-- What the walks ask of a node. -/
def SzT (td : Td) : Prop := TLens td ∧ TSmall td ∧ (spell td.lv).length ≤ 1000000000
theorem szt_flat {T : Tt} (h : T.all szP) : ∀ td ∈ T.flat 0, SzT td := fun td hm => by
  obtain ⟨h1, h2, h3, h4, h5⟩ := flat_mem T 0 h td hm
  exact sz_of ⟨h2, h3, by omega⟩ h4 h5
end Go.Proofs.YtjkkojefpecbfaaGreat

/- What FnLifted and FnHolePut say, over trees: a lifted tree with anything put is as before, it does not use the variable, and a hole put and then filled is the putting. No program is walked here. -/
namespace Go.Proofs.YtjkkojefpecbfaaGreat

theorem kindK_of {h : Hd} {c : Nat} (hp : nodeP h c) (hc : 1 ≤ c) : h.k ≠ 1 ∧ h.k ≠ 9 := by
  have h1 := hp.1
  refine ⟨fun e => ?_, fun e => ?_⟩
  · rw [e] at h1
    have : tkidsN 1 = 0 := by decide
    omega
  · rw [e] at h1
    have : tkidsN 9 = 0 := by decide
    omega
theorem bindN_le (k : Int) (j : Nat) : 0 ≤ bindN k j ∧ bindN k j ≤ 1 := by
  unfold bindN
  split <;> omega
theorem lo_t0 (h : Hd) : (Tt.t0 h).z.lo = if h.k = 1 then h.n + 1 else 0 := rfl
theorem put_same (A : Tt) {T : Tt} {u : Int} (h : T.z.lo ≤ u) : putR A T u = T := by
  cases T <;> (unfold putR; rw [if_pos h])
/-- How often a tree uses a variable. -/
def useR : Tt → Int → Int
  | .t0 h, v => if (Tt.t0 h).z.lo ≤ v then 0 else if h.k = 1 ∧ h.n = v then 1 else 0
  | .t1 h a, v => if (Tt.t1 h a).z.lo ≤ v then 0 else if h.k = 1 ∧ h.n = v then 1 else useR a (v + bindN h.k 0)
  | .t2 h a b, v => if (Tt.t2 h a b).z.lo ≤ v then 0 else if h.k = 1 ∧ h.n = v then 1 else useR a (v + bindN h.k 0) + useR b (v + bindN h.k 1)
  | .t3 h a b c, v => if (Tt.t3 h a b c).z.lo ≤ v then 0 else if h.k = 1 ∧ h.n = v then 1 else useR a (v + bindN h.k 0) + useR b (v + bindN h.k 1) + useR c (v + bindN h.k 2)
/-- No hole of a number. -/
def noH (m : Int) (h : Hd) (_ : Nat) : Prop := ¬ (h.k = 9 ∧ h.n = m)
theorem fill_same (A : Tt) (m : Int) {T : Tt} {u : Int} (h : T.z.ho = false) : fillR A m T u = T := by
  cases T <;> (unfold fillR; rw [if_pos h])
theorem fill_none (A : Tt) (m : Int) : ∀ (T : Tt) (u : Int), T.all (noH m) → fillR A m T u = T
  | .t0 h, u, hn => by
    unfold fillR
    split
    · rfl
    · rw [if_neg hn]
  | .t1 h a, u, hn => by
    have ea := fill_none A m a (u + bindN h.k 0) hn.2
    unfold fillR
    split
    · rfl
    · rw [ea]
  | .t2 h a b, u, hn => by
    have ea := fill_none A m a (u + bindN h.k 0) hn.2.1
    have eb := fill_none A m b (u + bindN h.k 1) hn.2.2
    unfold fillR
    split
    · rfl
    · rw [ea, eb]
  | .t3 h a b c, u, hn => by
    have ea := fill_none A m a (u + bindN h.k 0) hn.2.1
    have eb := fill_none A m b (u + bindN h.k 1) hn.2.2.1
    have ec := fill_none A m c (u + bindN h.k 2) hn.2.2.2
    unfold fillR
    split
    · rfl
    · rw [ea, eb, ec]
def holeT (m : Int) : Tt := .t0 ⟨9, m, 0, ⟨#[]⟩, []⟩
theorem lift_hole (m u : Int) : liftR u (holeT m) 0 = holeT m := by
  unfold holeT liftR
  rw [if_pos (.inl (by rw [lo_t0]; show (if (9 : Int) = 1 then m + 1 else 0) ≤ 0; rw [if_neg (by decide)]; omega))]
theorem ho_t1 {h : Hd} {a : Tt} (hk : h.k ≠ 9) (e : (Tt.t1 h a).z.ho = false) : a.z.ho = false := by
  have e : hoP h.k [a.z] 1 = false := e
  simpa [hoP, hk] using e
theorem ho_t2 {h : Hd} {a b : Tt} (hk : h.k ≠ 9) (e : (Tt.t2 h a b).z.ho = false) : a.z.ho = false ∧ b.z.ho = false := by
  have e : hoP h.k [a.z, b.z] 2 = false := e
  simpa [hoP, hk] using e
theorem ho_t3 {h : Hd} {a b c : Tt} (hk : h.k ≠ 9) (e : (Tt.t3 h a b c).z.ho = false) : a.z.ho = false ∧ b.z.ho = false ∧ c.z.ho = false := by
  have e : hoP h.k [a.z, b.z, c.z] 3 = false := e
  simpa [hoP, hk] using e
/-- A hole that is put and then filled is the putting. -/
theorem fill_put (A : Tt) (m : Int) : ∀ (T : Tt) (u : Int), T.all nodeP → T.all (noH m) → 0 ≤ u → fillR A m (putR (holeT m) T u) u = putR A T u
  | .t0 h, u, hp, hn, hu => by
    by_cases hl : (Tt.t0 h).z.lo ≤ u
    · rw [put_same _ hl, put_same _ hl, fill_none A m _ u hn]
    · have e : h.k = 1 := Classical.byContradiction (fun q => hl (by rw [lo_t0, if_neg q]; exact hu))
      unfold putR
      rw [if_neg hl, if_neg hl, if_pos e, if_pos e]
      by_cases en : h.n = u
      · rw [if_pos en, if_pos en, lift_hole]
        unfold holeT fillR
        rw [if_neg (by show ¬ hoP 9 [] 0 = false; simp [hoP]), if_pos ⟨rfl, rfl⟩]
      · rw [if_neg en, if_neg en]
        exact fill_same A m (by unfold varT; show hoP 1 [] 0 = false; simp [hoP])
  | .t1 h a, u, hp, hn, hu => by
    by_cases hl : (Tt.t1 h a).z.lo ≤ u
    · rw [put_same _ hl, put_same _ hl, fill_none A m _ u hn]
    · have hk := (kindK_of hp.1 (by omega)).2
      have ea := fill_put A m a (u + bindN h.k 0) hp.2 hn.2 (by have := bindN_le h.k 0; omega)
      unfold putR
      rw [if_neg hl, if_neg hl]
      by_cases eh : (Tt.t1 h (putR (holeT m) a (u + bindN h.k 0))).z.ho = false
      · rw [fill_same A m eh]
        rw [fill_same A m (ho_t1 hk eh)] at ea
        rw [ea]
      · unfold fillR
        rw [if_neg eh, ea]
  | .t2 h a b, u, hp, hn, hu => by
    by_cases hl : (Tt.t2 h a b).z.lo ≤ u
    · rw [put_same _ hl, put_same _ hl, fill_none A m _ u hn]
    · have hk := (kindK_of hp.1 (by omega)).2
      have ea := fill_put A m a (u + bindN h.k 0) hp.2.1 hn.2.1 (by have := bindN_le h.k 0; omega)
      have eb := fill_put A m b (u + bindN h.k 1) hp.2.2 hn.2.2 (by have := bindN_le h.k 1; omega)
      unfold putR
      rw [if_neg hl, if_neg hl]
      by_cases eh : (Tt.t2 h (putR (holeT m) a (u + bindN h.k 0)) (putR (holeT m) b (u + bindN h.k 1))).z.ho = false
      · rw [fill_same A m eh]
        obtain ⟨h1, h2⟩ := ho_t2 hk eh
        rw [fill_same A m h1] at ea
        rw [fill_same A m h2] at eb
        rw [ea, eb]
      · unfold fillR
        rw [if_neg eh, ea, eb]
  | .t3 h a b c, u, hp, hn, hu => by
    by_cases hl : (Tt.t3 h a b c).z.lo ≤ u
    · rw [put_same _ hl, put_same _ hl, fill_none A m _ u hn]
    · have hk := (kindK_of hp.1 (by omega)).2
      have ea := fill_put A m a (u + bindN h.k 0) hp.2.1 hn.2.1 (by have := bindN_le h.k 0; omega)
      have eb := fill_put A m b (u + bindN h.k 1) hp.2.2.1 hn.2.2.1 (by have := bindN_le h.k 1; omega)
      have ec := fill_put A m c (u + bindN h.k 2) hp.2.2.2 hn.2.2.2 (by have := bindN_le h.k 2; omega)
      unfold putR
      rw [if_neg hl, if_neg hl]
      by_cases eh : (Tt.t3 h (putR (holeT m) a (u + bindN h.k 0)) (putR (holeT m) b (u + bindN h.k 1)) (putR (holeT m) c (u + bindN h.k 2))).z.ho = false
      · rw [fill_same A m eh]
        obtain ⟨h1, h2, h3⟩ := ho_t3 hk eh
        rw [fill_same A m h1] at ea
        rw [fill_same A m h2] at eb
        rw [fill_same A m h3] at ec
        rw [ea, eb, ec]
      · unfold fillR
        rw [if_neg eh, ea, eb, ec]
end Go.Proofs.YtjkkojefpecbfaaGreat

/- The room that putting counts stays within bounds. No program is walked here. -/
namespace Go.Proofs.YtjkkojefpecbfaaGreat

theorem ded_le (k : Nat) : ∀ (T : Tt) (u : Int), ded k T u ≤ k * T.cnt
  | .t0 h, u => by
    unfold ded
    split
    · omega
    · split <;> simp [Tt.cnt]
  | .t1 h x, u => by
    have := ded_le k x (u + bindN h.k 0)
    unfold ded
    split
    · omega
    · simp only [Tt.cnt, Nat.mul_add]; omega
  | .t2 h x y, u => by
    have := ded_le k x (u + bindN h.k 0)
    have := ded_le k y (u + bindN h.k 1)
    unfold ded
    split
    · omega
    · simp only [Tt.cnt, Nat.mul_add]; omega
  | .t3 h x y z, u => by
    have := ded_le k x (u + bindN h.k 0)
    have := ded_le k y (u + bindN h.k 1)
    have := ded_le k z (u + bindN h.k 2)
    unfold ded
    split
    · omega
    · simp only [Tt.cnt, Nat.mul_add]; omega
/-- What is known of a tree and the room ahead of it. -/
def RoomOk (P : Hd → Nat → Prop) (T : Tt) (r : Int) : Prop := T.all P ∧ T.cnt ≤ 20000 ∧ -1000000000000 + 20000 * (T.cnt : Int) ≤ r ∧ r ≤ 20000
theorem room_le {c d : Nat} {k : Nat} (h : d ≤ k * c) (hk : k ≤ 20000) : (d : Int) ≤ 20000 * (c : Int) := by
  have : k * c ≤ 20000 * c := Nat.mul_le_mul_right c hk
  omega
/-- The room is bound at each kid, where it falls by no more than 20000 for each node. -/
theorem room_kids (P : Hd → Nat → Prop) (know : Tt → Int → Int → Option (Option Tt) × Int) (hr : ∀ (T : Tt) (u r : Int), T.all P → T.cnt ≤ 20000 → (chgS know T u r).2 ≤ r ∧ r - 20000 * (T.cnt : Int) ≤ (chgS know T u r).2) (T : Tt) (u r : Int) (j : Nat) (h : j < T.kids.length) (hp : RoomOk P T r) : RoomOk P T.kids[j] (chgJ know T u r j).2 := by
  obtain ⟨h1, h2, h3, h4⟩ := hp
  cases T with
  | t0 hd => simp [Tt.kids] at h
  | t1 hd x =>
    have e : j = 0 := by simp [Tt.kids] at h; exact h
    subst e
    simp only [Tt.cnt] at h2 h3
    exact ⟨h1.2, by show x.cnt ≤ _; omega, by show _ + 20000 * (x.cnt : Int) ≤ r; omega, h4⟩
  | t2 hd x y =>
    simp only [Tt.cnt] at h2 h3
    have hx := hr x (u + bindN hd.k 0) r h1.2.1 (by omega)
    rcases (show j = 0 ∨ j = 1 by simp [Tt.kids] at h; omega) with rfl | rfl
    · exact ⟨h1.2.1, by show x.cnt ≤ _; omega, by show _ + 20000 * (x.cnt : Int) ≤ r; omega, h4⟩
    · exact ⟨h1.2.2, by show y.cnt ≤ _; omega, by show _ + 20000 * (y.cnt : Int) ≤ (chgS know x (u + bindN hd.k 0) r).2; omega, by show (chgS know x (u + bindN hd.k 0) r).2 ≤ _; omega⟩
  | t3 hd x y z =>
    simp only [Tt.cnt] at h2 h3
    have hx := hr x (u + bindN hd.k 0) r h1.2.1 (by omega)
    have hy := hr y (u + bindN hd.k 1) (chgS know x (u + bindN hd.k 0) r).2 h1.2.2.1 (by omega)
    rcases (show j = 0 ∨ j = 1 ∨ j = 2 by simp [Tt.kids] at h; omega) with rfl | rfl | rfl
    · exact ⟨h1.2.1, by show x.cnt ≤ _; omega, by show _ + 20000 * (x.cnt : Int) ≤ r; omega, h4⟩
    · exact ⟨h1.2.2.1, by show y.cnt ≤ _; omega, by show _ + 20000 * (y.cnt : Int) ≤ (chgS know x (u + bindN hd.k 0) r).2; omega, by show (chgS know x (u + bindN hd.k 0) r).2 ≤ _; omega⟩
    · exact ⟨h1.2.2.2, by show z.cnt ≤ _; omega, by show _ + 20000 * (z.cnt : Int) ≤ (chgS know y (u + bindN hd.k 1) (chgS know x (u + bindN hd.k 0) r).2).2; omega, by show (chgS know y (u + bindN hd.k 1) (chgS know x (u + bindN hd.k 0) r).2).2 ≤ _; omega⟩
theorem put_pre (a : Tt) (ha : a.all varP) (hac : a.cnt ≤ 20000) (T : Tt) (u r s1 : Int) (j : Nat) (h : j < T.kids.length) (hp : RoomOk varP T r) (hk : knowP a T u r = (none, s1)) : RoomOk varP T.kids[j] (chgJ (knowP a) T u s1 j).2 := by
  have e : s1 = r := by
    unfold knowP at hk
    split at hk
    · cases hk
    · split at hk
      · split at hk <;> cases hk
      · exact (Prod.mk.inj hk).2.symm
  subst e
  refine room_kids varP (knowP a) (fun T u r h1 h2 => ?_) T u s1 j h hp
  have h3 := (put_ok a ha hac T u r h1 h2).room
  have h4 := room_le (ded_le (a.cnt - 1) T u) (by omega)
  omega
theorem lo_one {T : Tt} (hp : T.all varP) (hk : T.hd.k = 1) : T.z.lo = T.hd.n + 1 := by
  cases T with
  | t0 h =>
    have hk : h.k = 1 := hk
    show (zmk h.k h.n []).lo = h.n + 1
    simp [zmk, loP, hk]
  | t1 h x => exact absurd hk (hp.1.2 (by omega))
  | t2 h x y => exact absurd hk (hp.1.2 (by omega))
  | t3 h x y z => exact absurd hk (hp.1.2 (by omega))
theorem dedH_le (hole : Int) (k : Nat) : ∀ (T : Tt) (u : Int), dedH hole k T u ≤ k * T.cnt
  | .t0 h, u => by
    unfold dedH
    split
    · simp
    · split <;> simp [Tt.cnt]
  | .t1 h x, u => by
    have := dedH_le hole k x (u + bindN h.k 0)
    unfold dedH
    split
    · omega
    · simp only [Tt.cnt, Nat.mul_add]; omega
  | .t2 h x y, u => by
    have := dedH_le hole k x (u + bindN h.k 0)
    have := dedH_le hole k y (u + bindN h.k 1)
    unfold dedH
    split
    · omega
    · simp only [Tt.cnt, Nat.mul_add]; omega
  | .t3 h x y z, u => by
    have := dedH_le hole k x (u + bindN h.k 0)
    have := dedH_le hole k y (u + bindN h.k 1)
    have := dedH_le hole k z (u + bindN h.k 2)
    unfold dedH
    split
    · omega
    · simp only [Tt.cnt, Nat.mul_add]; omega
theorem fill_pre (a : Tt) (hole : Int) (ha : a.all varP) (hac : a.cnt ≤ 20000) (T : Tt) (u r s1 : Int) (j : Nat) (h : j < T.kids.length) (hp : RoomOk holeP T r) (hk : knowH a hole T u r = (none, s1)) : RoomOk holeP T.kids[j] (chgJ (knowH a hole) T u s1 j).2 := by
  have e : s1 = r := by
    unfold knowH at hk
    split at hk
    · cases hk
    · split at hk
      · cases hk
      · exact (Prod.mk.inj hk).2.symm
  subst e
  refine room_kids holeP (knowH a hole) (fun T u r h1 h2 => ?_) T u s1 j h hp
  have h3 := (fill_ok a hole ha hac T u r h1 h2).room
  have h4 := room_le (dedH_le hole (a.cnt - 1) T u) (by omega)
  omega
end Go.Proofs.YtjkkojefpecbfaaGreat

/- What holds of every node stays so by lifting, putting and filling. No program is walked here. -/
namespace Go.Proofs.YtjkkojefpecbfaaGreat

def VarOk (P : Hd → Nat → Prop) : Prop := ∀ n : Int, P ⟨1, n, 0, ⟨#[]⟩, []⟩ 0
theorem lift_all {P : Hd → Nat → Prop} (hv : VarOk P) (by' : Int) : ∀ (T : Tt) (f : Int), T.all P → (liftR by' T f).all P
  | .t0 h, f, hp => by
    unfold liftR
    split
    · exact hp
    · split
      · exact hv _
      · exact hp
  | .t1 h a, f, hp => by
    unfold liftR
    split
    · exact hp
    · exact ⟨hp.1, lift_all hv by' a _ hp.2⟩
  | .t2 h a b, f, hp => by
    unfold liftR
    split
    · exact hp
    · exact ⟨hp.1, lift_all hv by' a _ hp.2.1, lift_all hv by' b _ hp.2.2⟩
  | .t3 h a b c, f, hp => by
    unfold liftR
    split
    · exact hp
    · exact ⟨hp.1, lift_all hv by' a _ hp.2.1, lift_all hv by' b _ hp.2.2.1, lift_all hv by' c _ hp.2.2.2⟩
theorem put_all {P : Hd → Nat → Prop} (hv : VarOk P) (A : Tt) (hA : A.all P) : ∀ (T : Tt) (u : Int), T.all P → (putR A T u).all P
  | .t0 h, u, hp => by
    unfold putR
    split
    · exact hp
    · split
      · split
        · exact lift_all hv u A 0 hA
        · exact hv _
      · exact hp
  | .t1 h a, u, hp => by
    unfold putR
    split
    · exact hp
    · exact ⟨hp.1, put_all hv A hA a _ hp.2⟩
  | .t2 h a b, u, hp => by
    unfold putR
    split
    · exact hp
    · exact ⟨hp.1, put_all hv A hA a _ hp.2.1, put_all hv A hA b _ hp.2.2⟩
  | .t3 h a b c, u, hp => by
    unfold putR
    split
    · exact hp
    · exact ⟨hp.1, put_all hv A hA a _ hp.2.1, put_all hv A hA b _ hp.2.2.1, put_all hv A hA c _ hp.2.2.2⟩
theorem fill_all {P : Hd → Nat → Prop} (hv : VarOk P) (A : Tt) (hole : Int) (hA : A.all P) : ∀ (T : Tt) (u : Int), T.all P → (fillR A hole T u).all P
  | .t0 h, u, hp => by
    unfold fillR
    split
    · exact hp
    · split
      · exact lift_all hv u A 0 hA
      · exact hp
  | .t1 h a, u, hp => by
    unfold fillR
    split
    · exact hp
    · exact ⟨hp.1, fill_all hv A hole hA a _ hp.2⟩
  | .t2 h a b, u, hp => by
    unfold fillR
    split
    · exact hp
    · exact ⟨hp.1, fill_all hv A hole hA a _ hp.2.1, fill_all hv A hole hA b _ hp.2.2⟩
  | .t3 h a b c, u, hp => by
    unfold fillR
    split
    · exact hp
    · exact ⟨hp.1, fill_all hv A hole hA a _ hp.2.1, fill_all hv A hole hA b _ hp.2.2.1, fill_all hv A hole hA c _ hp.2.2.2⟩
end Go.Proofs.YtjkkojefpecbfaaGreat
