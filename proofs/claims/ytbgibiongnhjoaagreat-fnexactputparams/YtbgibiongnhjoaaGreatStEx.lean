/- Levels put for the parameters of a term's levels, as plain functions: what the specification makes of a tree, what the program knows at once, and that the program's fold gives the same, or nothing where a level is too great. No program is walked here. -/
import Derived.Test.YtbgibiongnhjoaaGreatTQ
import Derived.Test.YtbgibiongnhjoaaGreatTrI
import Derived.Test.YtbgibiongnhjoaaGreatTMk
import Derived.Test.YtbgibiongnhjoaaGreatTeD
import Derived.Test.YtbgibiongnhjoaaGreatFoB
import Derived.Test.YtbgibiongnhjoaaGreatStE
namespace Go.Proofs.YtbgibiongnhjoaaGreat

theorem Tr.flat_inj : ∀ (t u : Tr) (o : Nat), t.flat o = u.flat o → t = u := by
  intro t
  induction t with
  | leaf k s =>
    intro u o h
    cases u with
    | leaf k' s' => simp [Tr.flat] at h; rw [h.1, h.2]
    | one k' s' a =>
      have h2 := List.append_inj' (show [] ++ [(⟨k, s, []⟩ : Nd)] = _ from h) rfl
      simp at h2
    | two k' s' a b =>
      have h2 := List.append_inj' (show [] ++ [(⟨k, s, []⟩ : Nd)] = _ from h) rfl
      simp at h2
  | one k s a ih =>
    intro u o h
    cases u with
    | leaf k' s' =>
      have h2 := List.append_inj' (show _ = [] ++ [(⟨k', s', []⟩ : Nd)] from h) rfl
      simp at h2
    | one k' s' b =>
      have h2 := List.append_inj' (show a.flat o ++ [_] = b.flat o ++ [_] from h) rfl
      obtain ⟨h3, h4⟩ := h2
      simp only [List.cons.injEq, Nd.mk.injEq, and_true] at h4
      rw [ih b o h3, h4.1, h4.2.1]
    | two k' s' b c =>
      have h2 := List.append_inj' (show a.flat o ++ [_] = (b.flat o ++ c.flat (o + b.cnt)) ++ [_] from h) rfl
      simp at h2
  | two k s a b iha ihb =>
    intro u o h
    cases u with
    | leaf k' s' =>
      have h2 := List.append_inj' (show (a.flat o ++ b.flat (o + a.cnt)) ++ [_] = [] ++ [(⟨k', s', []⟩ : Nd)] from h) rfl
      simp at h2
    | one k' s' c =>
      have h2 := List.append_inj' (show (a.flat o ++ b.flat (o + a.cnt)) ++ [_] = c.flat o ++ [_] from h) rfl
      simp at h2
    | two k' s' c d =>
      have h2 := List.append_inj' (show (a.flat o ++ b.flat (o + a.cnt)) ++ [_] = (c.flat o ++ d.flat (o + c.cnt)) ++ [_] from h) rfl
      obtain ⟨h3, h4⟩ := h2
      simp only [List.cons.injEq, Nd.mk.injEq, and_true] at h4
      obtain ⟨e1, e2, e3, _⟩ := h4
      have pa := a.cnt_pos
      have pc := c.cnt_pos
      have hcc : a.cnt = c.cnt := by omega
      obtain ⟨h5, h6⟩ := List.append_inj h3 (by rw [Tr.flat_len, Tr.flat_len, hcc])
      rw [← hcc] at h6
      rw [iha c o h5, ihb d _ h6, e1, e2]

theorem lvl_stands (ns : List Nd) : ∀ (k : Nat) (st : List Int), runTo ns k = some st → k ≤ ns.length → ∃ ts, Stands ns k st ts := by
  intro k
  induction k with
  | zero => intro st h _; simp [runTo] at h; subst h; exact ⟨[], Stands.start ns⟩
  | succ k ih =>
    intro st h hk
    have hlt : k < ns.length := by omega
    cases hr : runTo ns k with
    | none => rw [runTo_none ns k (k + 1) (by omega) hr] at h; cases h
    | some st0 =>
      obtain ⟨ts, hs⟩ := ih st0 hr (by omega)
      rw [runTo_succ ns k hlt st0 hr] at h
      unfold stepN at h
      split at h
      · cases h
      · rename_i hc
        have h := Option.some.inj h
        have c1 : ¬ kidsN ns[k].k < 0 := fun e => hc (.inl e)
        have c2 : ¬ (st0.length : Int) < kidsN ns[k].k := fun e => hc (.inr (.inl e))
        have c3 : fieldsB ns[k] = true := by
          cases e : fieldsB ns[k]
          · exact absurd (.inr (.inr (.inl e))) hc
          · rfl
        have c4 : ns[k].kids = st0.drop (st0.length - (kidsN ns[k].k).toNat) := Classical.byContradiction (fun e => hc (.inr (.inr (.inr e))))
        have hlen := hs.len
        rcases kidsN_cases ns[k].k with e | e | e | e
        · omega
        · rw [e] at c4 h
          have c5 : ns[k].kids = [] := by rw [c4]; simp
          have := hs.zero hlt e c3 c5
          rw [← hlen] at this
          subst h
          exact ⟨_, this⟩
        · rw [e] at c2 c4 h
          have hne : ts ≠ [] := fun (q : _ = []) => by
            have hq : st0.length = 0 := by rw [hlen, q]; rfl
            omega
          obtain ⟨xs, a, rfl⟩ : ∃ xs a, ts = xs ++ [a] := ⟨ts.dropLast, ts.getLast hne, (List.dropLast_concat_getLast hne).symm⟩
          have hl2 : st0.length - (1 : Int).toNat = xs.length := by simp at hlen; show st0.length - 1 = _; omega
          rw [hl2] at c4 h
          have := hs.one hlt e c3 c4
          subst h
          exact ⟨_, this⟩
        · rw [e] at c2 c4 h
          have hne : ts ≠ [] := fun (q : _ = []) => by
            have hq : st0.length = 0 := by rw [hlen, q]; rfl
            omega
          obtain ⟨ys, b, rfl⟩ : ∃ xs a, ts = xs ++ [a] := ⟨ts.dropLast, ts.getLast hne, (List.dropLast_concat_getLast hne).symm⟩
          have hne2 : ys ≠ [] := fun (q : _ = []) => by
            have hq : st0.length = 1 := by rw [hlen, q]; rfl
            omega
          obtain ⟨xs, a, rfl⟩ : ∃ xs a, ys = xs ++ [a] := ⟨ys.dropLast, ys.getLast hne2, (List.dropLast_concat_getLast hne2).symm⟩
          have hl2 : st0.length - (2 : Int).toNat = xs.length := by simp at hlen; show st0.length - 2 = _; omega
          rw [hl2] at c4 h
          have hs' : Stands ns k st0 (xs ++ [a, b]) := by simpa using hs
          have := hs'.two hlt e c3 c4
          subst h
          exact ⟨_, this⟩
theorem lvl_tree {ns : List Nd} (h : lvlB ns = true) : ∃ t, OkTree ns t := by
  unfold lvlB at h
  rw [Bool.and_eq_true, Bool.and_eq_true, decide_eq_true_eq, decide_eq_true_eq] at h
  obtain ⟨⟨h1, h2⟩, h3⟩ := h
  cases hr : runTo ns ns.length with
  | none => rw [hr] at h3; cases h3
  | some st =>
    rw [hr] at h3
    have h3 : (decide (st.length = 1) && decide ((namesOf ns).length ≤ 6)) = true := h3
    rw [Bool.and_eq_true, decide_eq_true_eq, decide_eq_true_eq] at h3
    obtain ⟨ts, hs⟩ := lvl_stands ns ns.length st hr (Nat.le_refl _)
    have hl := hs.len
    match ts, hs, hl with
    | [], _, hl => have hl : st.length = 0 := hl
                   omega
    | [t], hs, _ =>
      obtain ⟨a, b, c, d⟩ := hs.all
      exact ⟨t, a, b, c, d, h2, h3.2⟩
    | _ :: _ :: _, _, hl => simp at hl; omega
open Classical in
/-- The tree of a valid level. -/
noncomputable def treeOf (ns : List Nd) : Tr := if h : ∃ t, OkTree ns t then Classical.choose h else .leaf 1 ⟨#[]⟩
theorem treeOf_eq {ns : List Nd} {t : Tr} (h : OkTree ns t) : treeOf ns = t := by
  have he : ∃ t, OkTree ns t := ⟨t, h⟩
  unfold treeOf
  rw [dif_pos he]
  exact Tr.flat_inj _ _ 0 ((Classical.choose_spec he).1.symm.trans h.1)
theorem treeOf_ok {ns : List Nd} (h : lvlB ns = true) : OkTree ns (treeOf ns) := by
  obtain ⟨t, ht⟩ := lvl_tree h
  rw [treeOf_eq ht]
  exact ht
/-- A level with levels put for its parameters, and whether it is not too great. -/
noncomputable def putL (names : List ByteArray) (ts : List Tr) (l : List Nd) : List Nd := ((treeOf l).put names ts).flat 0
noncomputable def fitL (names : List ByteArray) (ts : List Tr) (l : List Nd) : Bool := fitsB ((treeOf l).put names ts)
theorem put_none (names : List ByteArray) (ts : List Tr) : ∀ (t : Tr) (o : Nat), t.ok → (∀ nd ∈ t.flat o, nd.k = 5 → atS names nd.s < 0) → t.put names ts = t
  | .leaf k s, o, _, h => by
    have h0 := h ⟨k, s, []⟩ (by simp [Tr.flat])
    simp only [Tr.put]
    rw [if_neg (fun e => by have := h0 e.1; have h2 : atS names s < 0 := this; omega)]
  | .one k s a, o, hok, h => by
    have e : s = ⟨#[]⟩ := by
      have h1 := hok.2.1
      have h2 := hok.1
      unfold fieldsB at h1
      rw [if_neg (by show ¬ k = 5; omega)] at h1
      exact empty_of h1
    have ih := put_none names ts a o hok.2.2 (fun nd hnd => h nd (by simp only [Tr.flat]; exact List.mem_append.2 (.inl hnd)))
    simp only [Tr.put]
    rw [ih, e]
  | .two k s a b, o, hok, h => by
    have e : s = ⟨#[]⟩ := by
      have h1 := hok.2.1
      have h2 := hok.1
      unfold fieldsB at h1
      rw [if_neg (by show ¬ k = 5; omega)] at h1
      exact empty_of h1
    have iha := put_none names ts a o hok.2.2.1 (fun nd hnd => h nd (by simp only [Tr.flat]; exact List.mem_append.2 (.inl (List.mem_append.2 (.inl hnd)))))
    have ihb := put_none names ts b (o + a.cnt) hok.2.2.2 (fun nd hnd => h nd (by simp only [Tr.flat]; exact List.mem_append.2 (.inl (List.mem_append.2 (.inr hnd)))))
    simp only [Tr.put]
    rw [iha, ihb, e]
theorem putL_none {names : List ByteArray} {ts : List Tr} {l : List Nd} (h : lvlB l = true) (hn : ∀ nd ∈ l, nd.k = 5 → atS names nd.s < 0) : putL names ts l = l ∧ fitL names ts l = true := by
  have ht := treeOf_ok h
  unfold putL fitL
  rw [put_none names ts (treeOf l) 0 ht.2.1 (fun nd hnd => hn nd (by rw [ht.1]; exact hnd))]
  refine ⟨ht.1.symm, ?_⟩
  rw [← lvl_flat _ ht.2.1, ← ht.1]
  exact h
theorem fitL_ok {names : List ByteArray} {ts : List Tr} (hts : ∀ t ∈ ts, t.ok) {l : List Nd} (h : lvlB l = true) : lvlB (putL names ts l) = fitL names ts l := lvl_flat _ (putT_ok names ts hts _ (treeOf_ok h).2.1)
/-- A head with levels put for the parameters of its levels. -/
noncomputable def Hd.par (names : List ByteArray) (ts : List Tr) (h : Hd) : Hd := ⟨h.k, h.n, h.m, h.s, h.lv.map (putL names ts)⟩
/-- A tree with levels put for parameters. -/
noncomputable def parR (names : List ByteArray) (ts : List Tr) : Tt → Tt
  | .t0 h => .t0 (h.par names ts)
  | .t1 h a => .t1 (h.par names ts) (parR names ts a)
  | .t2 h a b => .t2 (h.par names ts) (parR names ts a) (parR names ts b)
  | .t3 h a b c => .t3 (h.par names ts) (parR names ts a) (parR names ts b) (parR names ts c)
/-- Whether none of its levels is too great. -/
noncomputable def parG (names : List ByteArray) (ts : List Tr) : Tt → Bool
  | .t0 h => h.lv.all (fitL names ts)
  | .t1 h a => h.lv.all (fitL names ts) && parG names ts a
  | .t2 h a b => h.lv.all (fitL names ts) && parG names ts a && parG names ts b
  | .t3 h a b c => h.lv.all (fitL names ts) && parG names ts a && parG names ts b && parG names ts c
/-- Whether parameters stand in its levels. -/
def Tt.hp : Tt → Bool
  | .t0 h => parL h.lv
  | .t1 h a => parL h.lv || a.hp
  | .t2 h a b => parL h.lv || a.hp || b.hp
  | .t3 h a b c => parL h.lv || a.hp || b.hp || c.hp
theorem parR_cnt (names : List ByteArray) (ts : List Tr) : ∀ T : Tt, (parR names ts T).cnt = T.cnt
  | .t0 _ => rfl
  | .t1 _ a => by simp only [parR, Tt.cnt, parR_cnt names ts a]
  | .t2 _ a b => by simp only [parR, Tt.cnt, parR_cnt names ts a, parR_cnt names ts b]
  | .t3 _ a b c => by simp only [parR, Tt.cnt, parR_cnt names ts a, parR_cnt names ts b, parR_cnt names ts c]
theorem kids_nolv {h : Hd} {c : Nat} (hp : nodeP h c) (hc : 1 ≤ c) : h.lv = [] := by
  obtain ⟨h1, h2⟩ := hp
  simp only [tfieldsB, tlevB, Bool.and_eq_true, decide_eq_true_eq] at h2
  have h3 : ((h.td []).lv.length : Int) ≤ mostL (h.td []).k := h2.2.1.2
  have h3 : (h.lv.length : Int) ≤ mostL h.k := h3
  have h4 : mostL h.k = 0 := by
    unfold mostL
    by_cases e2 : h.k = 2
    · rw [e2] at h1
      have : tkidsN 2 = 0 := by decide
      omega
    · by_cases e3 : h.k = 3
      · rw [e3] at h1
        have : tkidsN 3 = 0 := by decide
        omega
      · rw [if_neg e2, if_neg e3]
  exact List.eq_nil_of_length_eq_zero (by omega)
theorem par_head {names : List ByteArray} {ts : List Tr} {h : Hd} (hl : ∀ l ∈ h.lv, lvlB l = true) (hn : ∀ l ∈ h.lv, ∀ nd ∈ l, nd.k = 5 → atS names nd.s < 0) : h.par names ts = h ∧ h.lv.all (fitL names ts) = true := by
  refine ⟨?_, List.all_eq_true.2 (fun l hm => (putL_none (hl l hm) (hn l hm)).2)⟩
  unfold Hd.par
  rw [show h.lv.map (putL names ts) = h.lv from by
    conv => rhs; rw [← List.map_id h.lv]
    exact List.map_congr_left (fun l hm => (putL_none (hl l hm) (hn l hm)).1)]
theorem head_nolv {names : List ByteArray} {ts : List Tr} {h : Hd} (e : h.lv = []) : h.par names ts = h ∧ h.lv.all (fitL names ts) = true := par_head (by simp [e]) (by simp [e])
/-- Where no name stands in its levels, it stays. -/
theorem par_none (names : List ByteArray) (ts : List Tr) : ∀ T : Tt, T.all nodeP → T.all (fun h _ => ∀ l ∈ h.lv, ∀ nd ∈ l, nd.k = 5 → atS names nd.s < 0) → parR names ts T = T ∧ parG names ts T = true
  | .t0 h, hp, hn => by
    obtain ⟨e1, e2⟩ := par_head (names := names) (ts := ts) (lev_of hp.2) hn
    exact ⟨by simp only [parR]; rw [e1], e2⟩
  | .t1 h a, hp, hn => by
    obtain ⟨e1, e2⟩ := par_head (names := names) (ts := ts) (lev_of hp.1.2) hn.1
    obtain ⟨a1, a2⟩ := par_none names ts a hp.2 hn.2
    exact ⟨by simp only [parR]; rw [e1, a1], by simp only [parG]; rw [e2, a2]; rfl⟩
  | .t2 h a b, hp, hn => by
    obtain ⟨e1, e2⟩ := par_head (names := names) (ts := ts) (lev_of hp.1.2) hn.1
    obtain ⟨a1, a2⟩ := par_none names ts a hp.2.1 hn.2.1
    obtain ⟨b1, b2⟩ := par_none names ts b hp.2.2 hn.2.2
    exact ⟨by simp only [parR]; rw [e1, a1, b1], by simp only [parG]; rw [e2, a2, b2]; rfl⟩
  | .t3 h a b c, hp, hn => by
    obtain ⟨e1, e2⟩ := par_head (names := names) (ts := ts) (lev_of hp.1.2) hn.1
    obtain ⟨a1, a2⟩ := par_none names ts a hp.2.1 hn.2.1
    obtain ⟨b1, b2⟩ := par_none names ts b hp.2.2.1 hn.2.2.1
    obtain ⟨c1, c2⟩ := par_none names ts c hp.2.2.2 hn.2.2.2
    exact ⟨by simp only [parR]; rw [e1, a1, b1, c1], by simp only [parG]; rw [e2, a2, b2, c2]; rfl⟩
theorem par_nil (ts : List Tr) (T : Tt) (hp : T.all nodeP) : parR [] ts T = T ∧ parG [] ts T = true :=
  par_none [] ts T hp (all_mono (P := nodeP) (fun _ _ _ _ _ nd _ _ => by show atS [] nd.s < 0; simp [atS]) hp)
theorem nopar {names : List ByteArray} {ls : List (List Nd)} (h : parL ls = false) : ∀ l ∈ ls, ∀ nd ∈ l, nd.k = 5 → atS names nd.s < 0 := fun l hl nd hnd e => by
  exfalso
  have : parL ls = true := List.any_eq_true.2 ⟨l, hl, List.any_eq_true.2 ⟨nd, hnd, by simp [e]⟩⟩
  rw [h] at this
  cases this
theorem hp_none (names : List ByteArray) : ∀ T : Tt, T.hp = false → T.all (fun h _ => ∀ l ∈ h.lv, ∀ nd ∈ l, nd.k = 5 → atS names nd.s < 0)
  | .t0 h, e => nopar e
  | .t1 h a, e => by
    simp only [Tt.hp, Bool.or_eq_false_iff] at e
    exact ⟨nopar e.1, hp_none names a e.2⟩
  | .t2 h a b, e => by
    simp only [Tt.hp, Bool.or_eq_false_iff] at e
    exact ⟨nopar e.1.1, hp_none names a e.1.2, hp_none names b e.2⟩
  | .t3 h a b c, e => by
    simp only [Tt.hp, Bool.or_eq_false_iff] at e
    exact ⟨nopar e.1.1.1, hp_none names a e.1.1.2, hp_none names b e.1.2, hp_none names c e.2⟩
/-- What the program's putting of levels knows at once. -/
noncomputable def knowQ (names : List ByteArray) (ts : List Tr) (T : Tt) (_ : Int) (s : Unit) : Option (Option Tt) × Unit :=
  if T.hp = false then (some (some T), s)
  else if T.hd.lv = [] then (none, s)
  else (some (if T.hd.lv.all (fitL names ts) = true then some (.t0 (T.hd.par names ts)) else none), s)
/-- What the program's putting of levels gives. -/
noncomputable def parO (names : List ByteArray) (ts : List Tr) (T : Tt) : Option Tt := if parG names ts T = true then some (parR names ts T) else none
theorem chg_par (names : List ByteArray) (ts : List Tr) : ∀ (T : Tt) (u : Int), T.all nodeP → T.cnt ≤ 20000 → chgS (knowQ names ts) T u () = (parO names ts T, ())
  | .t0 h, u, hp, hc => by
    by_cases e : (Tt.t0 h).hp = false
    · obtain ⟨r1, r2⟩ := par_none names ts _ hp (hp_none names _ e)
      unfold chgS knowQ parO
      rw [if_pos e, r1, r2]
      rfl
    · have hl : h.lv ≠ [] := fun q => e (by simp only [Tt.hp]; rw [q]; rfl)
      unfold chgS knowQ parO
      rw [if_neg e, if_neg (show ¬ (Tt.t0 h).hd.lv = [] from hl)]
      rfl
  | .t1 h a, u, hp, hc => by
    have ea := chg_par names ts a (u + bindN h.k 0) hp.2 (by simp only [Tt.cnt] at hc; omega)
    have hl := kids_nolv hp.1 (by omega)
    obtain ⟨q1, q2⟩ := head_nolv (names := names) (ts := ts) hl
    by_cases e : (Tt.t1 h a).hp = false
    · obtain ⟨r1, r2⟩ := par_none names ts _ hp (hp_none names _ e)
      unfold chgS knowQ parO
      rw [if_pos e, r1, r2]
      rfl
    · have hk : knowQ names ts (.t1 h a) u () = (none, ()) := by unfold knowQ; rw [if_neg e, if_pos (show (Tt.t1 h a).hd.lv = [] from hl)]
      unfold chgS
      rw [hk]
      have eG : parG names ts (.t1 h a) = (parG names ts a) := by simp only [parG]; rw [q2]; simp
      have eR : parR names ts (.t1 h a) = .t1 h (parR names ts a) := by simp only [parR]; rw [q1]
      have hc2 : (Tt.t1 h (parR names ts a)).cnt ≤ 20000 := by simp only [Tt.cnt, parR_cnt] at hc ⊢; exact hc
      simp only [ea]
      unfold parO
      rw [eG, eR]
      cases ga : parG names ts a <;> simp [join1, sizedT, hc2]
  | .t2 h a b, u, hp, hc => by
    have ea := chg_par names ts a (u + bindN h.k 0) hp.2.1 (by simp only [Tt.cnt] at hc; omega)
    have eb := chg_par names ts b (u + bindN h.k 1) hp.2.2 (by simp only [Tt.cnt] at hc; omega)
    have hl := kids_nolv hp.1 (by omega)
    obtain ⟨q1, q2⟩ := head_nolv (names := names) (ts := ts) hl
    by_cases e : (Tt.t2 h a b).hp = false
    · obtain ⟨r1, r2⟩ := par_none names ts _ hp (hp_none names _ e)
      unfold chgS knowQ parO
      rw [if_pos e, r1, r2]
      rfl
    · have hk : knowQ names ts (.t2 h a b) u () = (none, ()) := by unfold knowQ; rw [if_neg e, if_pos (show (Tt.t2 h a b).hd.lv = [] from hl)]
      unfold chgS
      rw [hk]
      have eG : parG names ts (.t2 h a b) = (parG names ts a && parG names ts b) := by simp only [parG]; rw [q2]; simp
      have eR : parR names ts (.t2 h a b) = .t2 h (parR names ts a) (parR names ts b) := by simp only [parR]; rw [q1]
      have hc2 : (Tt.t2 h (parR names ts a) (parR names ts b)).cnt ≤ 20000 := by simp only [Tt.cnt, parR_cnt] at hc ⊢; exact hc
      simp only [ea, eb]
      unfold parO
      rw [eG, eR]
      cases ga : parG names ts a <;> cases gb : parG names ts b <;> simp [join2, sizedT, hc2]
  | .t3 h a b c, u, hp, hc => by
    have ea := chg_par names ts a (u + bindN h.k 0) hp.2.1 (by simp only [Tt.cnt] at hc; omega)
    have eb := chg_par names ts b (u + bindN h.k 1) hp.2.2.1 (by simp only [Tt.cnt] at hc; omega)
    have ec := chg_par names ts c (u + bindN h.k 2) hp.2.2.2 (by simp only [Tt.cnt] at hc; omega)
    have hl := kids_nolv hp.1 (by omega)
    obtain ⟨q1, q2⟩ := head_nolv (names := names) (ts := ts) hl
    by_cases e : (Tt.t3 h a b c).hp = false
    · obtain ⟨r1, r2⟩ := par_none names ts _ hp (hp_none names _ e)
      unfold chgS knowQ parO
      rw [if_pos e, r1, r2]
      rfl
    · have hk : knowQ names ts (.t3 h a b c) u () = (none, ()) := by unfold knowQ; rw [if_neg e, if_pos (show (Tt.t3 h a b c).hd.lv = [] from hl)]
      unfold chgS
      rw [hk]
      have eG : parG names ts (.t3 h a b c) = (parG names ts a && parG names ts b && parG names ts c) := by simp only [parG]; rw [q2]; simp
      have eR : parR names ts (.t3 h a b c) = .t3 h (parR names ts a) (parR names ts b) (parR names ts c) := by simp only [parR]; rw [q1]
      have hc2 : (Tt.t3 h (parR names ts a) (parR names ts b) (parR names ts c)).cnt ≤ 20000 := by simp only [Tt.cnt, parR_cnt] at hc ⊢; exact hc
      simp only [ea, eb, ec]
      unfold parO
      rw [eG, eR]
      cases ga : parG names ts a <;> cases gb : parG names ts b <;> cases gc : parG names ts c <;> simp [join3, sizedT, hc2]
/-- What holds of each head with levels put holds of the tree. -/
theorem par_all {names : List ByteArray} {ts : List Tr} {P : Hd → Nat → Prop} (hP : ∀ h c, nodeP h c → h.lv.all (fitL names ts) = true → P (h.par names ts) c) : ∀ T : Tt, T.all nodeP → parG names ts T = true → (parR names ts T).all P
  | .t0 h, hp, hg => hP h 0 hp hg
  | .t1 h a, hp, hg => by
    simp only [parG, Bool.and_eq_true] at hg
    exact ⟨hP h 1 hp.1 hg.1, par_all hP a hp.2 hg.2⟩
  | .t2 h a b, hp, hg => by
    simp only [parG, Bool.and_eq_true] at hg
    exact ⟨hP h 2 hp.1 hg.1.1, par_all hP a hp.2.1 hg.1.2, par_all hP b hp.2.2 hg.2⟩
  | .t3 h a b c, hp, hg => by
    simp only [parG, Bool.and_eq_true] at hg
    exact ⟨hP h 3 hp.1 hg.1.1.1, par_all hP a hp.2.1 hg.1.1.2, par_all hP b hp.2.2.1 hg.1.2, par_all hP c hp.2.2.2 hg.2⟩
theorem par_lev {names : List ByteArray} {ts : List Tr} (hts : ∀ t ∈ ts, t.ok) (T : Tt) (hp : T.all nodeP) (hg : parG names ts T = true) : (parR names ts T).all levP :=
  par_all (fun h c hn hf => ⟨fun l hl => by
    simp only [Hd.par, List.mem_map] at hl
    obtain ⟨m, hm, rfl⟩ := hl
    rw [fitL_ok hts (lev_of hn.2 m hm)]
    exact List.all_eq_true.1 hf m hm, by simp only [Hd.par, List.length_map]; have := (lv_small hn).1; omega⟩) T hp hg
end Go.Proofs.YtbgibiongnhjoaaGreat

/- What change and lift answer. -/
namespace Go.Proofs.YtbgibiongnhjoaaGreat
open Go.ChangeShapes Go.WideShapes Go.ChangeAt Go.RowKit

theorem KeptX.one {mb : Nat} {w w' : World} (h : KeptX (fun k => k = mb) w w') : w.grownBy w' (some mb) :=
  ⟨h.os, h.tape, h.output, h.size, fun k hk hr => h.block k hk (fun e => hr (by rw [e]))⟩
end Go.Proofs.YtbgibiongnhjoaaGreat

/- As in StE, for a store whose levels may be the program's own. -/
namespace Go.Proofs.YtbgibiongnhjoaaGreat
open Go.ChangeShapes Go.WideShapes Go.ChangeAt Go.RowKit

/-- The kinds of rows that levels are kept in. -/
def lvT (t : Nat) : Bool := t == 174 || t == 3 || t == 111
/-- All below a base stays, and so do the rows that levels may be kept in. -/
def Kp (base : Nat) (w w' : World) : Prop := Below base w w' ∧ ∀ (k : Nat) (cs : Array Value) (t : Nat) (f : Nat × Nat), w.heap[k]? = some (.cells cs t f) → lvT t = true → w'.heap[k]? = w.heap[k]?
theorem Kp.trans {base : Nat} {w w1 w2 : World} (h : Kp base w w1) (h2 : Kp base w1 w2) : Kp base w w2 :=
  ⟨h.1.trans h2.1, fun k cs t f hk ht => (h2.2 k cs t f ((h.2 k cs t f hk ht).trans hk) ht).trans (h.2 k cs t f hk ht)⟩
theorem Kp.of {base : Nat} {w w' : World} (hb : Below w.heap.size w w') (hl : base ≤ w.heap.size) : Kp base w w' :=
  ⟨hb.mono hl, fun k _ _ _ hk _ => hb.block k (Array.getElem?_eq_some_iff.1 hk).1⟩
theorem Kp.grown {base R : Nat} {w w' : World} (hg : w.grownBy w' (some R)) (hb : base ≤ R) (hbase : base ≤ w.heap.size) (hR : ∀ cs t f, w.heap[R]? = some (.cells cs t f) → lvT t = false) : Kp base w w' :=
  ⟨(Below.refl base w).grown hg hbase (fun k hk => by have := Option.some.inj hk; omega), fun k cs t f hk ht => hg.block k (Array.getElem?_eq_some_iff.1 hk).1 (fun e => by
    have e := Option.some.inj e
    subst e
    rw [hR cs t f hk] at ht
    cases ht)⟩
/-- What is known of a node that the store has. -/
structure EntOk2 (base : Nat) (w : World) (L : List (Nk × Nat × Nat)) (Z : Nat → Zs) (H : Nat → Bool) (q : Nk) (b : Nat) : Prop where
  node : ∃ lv ls, NbAt w b (tmL q lv (Z b) (H b)) ∧ (∀ w', Kp base w w' → LevsAt w' lv ls) ∧ (q.sp = ⟨(spell ls).toArray⟩ ∧ ∀ l ∈ ls, lvlB l = true) ∧ H b = hpP (parL ls) (fun j => H ((q.kid j).getD 0)) (tkidsN q.k).toNat
  low : base ≤ b
  k0 : 0 ≤ tkidsN q.k
  kid : ∀ j : Nat, (j : Int) < tkidsN q.k → ∃ y ∈ L, q.kid j = some y.2.1
  nok : ∀ j : Nat, tkidsN q.k ≤ (j : Int) → q.kid j = none
  z : Z b = zmk q.k q.n ((List.range (tkidsN q.k).toNat).map (fun j => Z ((q.kid j).getD 0)))
  ok : ZOk (Z b) ∧ (Z b).sz ≤ 20000
/-- What is known of a store: its own block, its map, the nodes that the map leads to. -/
structure St2 (base : Nat) (w : World) (Sb mb gb : Nat) (clock : Nat) (L : List (Nk × Nat × Nat)) (Z : Nat → Zs) (H : Nat → Bool) : Prop where
  sb : w.heap[Sb]? = some (.cells #[.map (some mb), .pointer (some ⟨gb, 0, none⟩)] 148 (0, 0))
  mp : w.heap[mb]? = some (.map (L.map ent).toArray clock)
  ents : ∀ x ∈ L, EntOk2 base w L Z H x.1 x.2.1
  lows : base ≤ Sb ∧ base ≤ mb
  great : NbAt w gb (tmL greatK (.slice none 0 0) ⟨20001, 0, false⟩ false)
  gne : ∀ x ∈ L, x.2.1 ≠ gb
  uniq : ∀ x ∈ L, ∀ y ∈ L, x.1 = y.1 ∨ x.2.1 = y.2.1 → x = y
theorem EntOk2.ptr {base : Nat} {w : World} {L : List (Nk × Nat × Nat)} {Z : Nat → Zs} {H : Nat → Bool} {q : Nk} {b : Nat} (h : EntOk2 base w L Z H q b) : ∃ cs, w.heap[b]? = some (.cells cs 131 (0, 0)) := by
  obtain ⟨lv, ls, h1, _⟩ := h.node; exact nb_heap h1
theorem EntOk2.key {base : Nat} {w : World} {L : List (Nk × Nat × Nat)} {Z : Nat → Zs} {H : Nat → Bool} {q : Nk} {b : Nat} (h : EntOk2 base w L Z H q b) : KeySt L q := ⟨h.k0, h.kid, h.nok⟩
theorem KeySt.ok2 {base : Nat} {w : World} {Sb mb gb clock : Nat} {L : List (Nk × Nat × Nat)} {Z : Nat → Zs} {H : Nat → Bool} {q : Nk} (hs : St2 base w Sb mb gb clock L Z H) (h : KeySt L q) : KeyOk w q := by
  refine kid_all q (P := PtrOk w) (fun j => ?_)
  by_cases hj : (j : Int) < tkidsN q.k
  · obtain ⟨y, hy, e⟩ := h.kid j hj
    intro b hb
    rw [e] at hb
    obtain ⟨cs, h1⟩ := (hs.ents y hy).ptr
    exact ⟨cs, 131, by rw [← Option.some.inj hb]; exact h1⟩
  · rw [h.nok j (by omega)]; exact PtrOk.nil w
theorem St2.keys {base : Nat} {w : World} {Sb mb gb clock : Nat} {L : List (Nk × Nat × Nat)} {Z : Nat → Zs} {H : Nat → Bool} (hs : St2 base w Sb mb gb clock L Z H) : ∀ x ∈ L, KeyOk w x.1 := fun x hx => (hs.ents x hx).key.ok2 hs
/-- Where its blocks, and all below its base, stay. -/
theorem EntOk2.same {base : Nat} {w w' : World} {L : List (Nk × Nat × Nat)} {Z : Nat → Zs} {H : Nat → Bool} {q : Nk} {b : Nat} (h : EntOk2 base w L Z H q b) (hb : Kp base w w') (hh : w'.heap[b]? = w.heap[b]?) : EntOk2 base w' L Z H q b := by
  obtain ⟨lv, ls, h1, h2, h3⟩ := h.node
  exact ⟨⟨lv, ls, nb_same h1 hh, fun w2 hw => h2 w2 (hb.trans hw), h3⟩, h.low, h.k0, h.kid, h.nok, h.z, h.ok⟩
theorem St2.keep {base : Nat} {w w' : World} {Sb mb gb clock : Nat} {L : List (Nk × Nat × Nat)} {Z : Nat → Zs} {H : Nat → Bool} (hs : St2 base w Sb mb gb clock L Z H) (hb : Below w.heap.size w w') (hl : base ≤ w.heap.size) : St2 base w' Sb mb gb clock L Z H := by
  have e1 : Sb < w.heap.size := (Array.getElem?_eq_some_iff.1 hs.sb).1
  have e2 : mb < w.heap.size := (Array.getElem?_eq_some_iff.1 hs.mp).1
  refine ⟨by rw [hb.block Sb e1]; exact hs.sb, by rw [hb.block mb e2]; exact hs.mp, fun x hx => ?_, hs.lows, hs.great.keep hb, hs.gne, hs.uniq⟩
  obtain ⟨cs, h1⟩ := (hs.ents x hx).ptr
  exact (hs.ents x hx).same (Kp.of hb hl) (hb.block _ (Array.getElem?_eq_some_iff.1 h1).1)
theorem St2.cell {base : Nat} {w : World} {Sb mb gb clock : Nat} {L : List (Nk × Nat × Nat)} {Z : Nat → Zs} {H : Nat → Bool} (hs : St2 base w Sb mb gb clock L Z H) : w.cell? ⟨Sb, 0, none⟩ = some (.map (some mb)) ∧ w.cell? ⟨Sb, 1, none⟩ = some (.pointer (some ⟨gb, 0, none⟩)) :=
  ⟨by rw [Lib.cell_of_heap hs.sb]; rfl, by rw [Lib.cell_of_heap hs.sb]; rfl⟩
theorem EntOk.two {base : Nat} {w : World} {L : List (Nk × Nat × Nat)} {Z : Nat → Zs} {H : Nat → Bool} {q : Nk} {b : Nat} (h : EntOk base w L Z H q b) : EntOk2 base w L Z H q b := by
  obtain ⟨lv, ls, h1, h2, h3⟩ := h.node
  exact ⟨⟨lv, ls, h1, fun w2 hw => h2 w2 hw.1, h3⟩, h.low, h.k0, h.kid, h.nok, h.z, h.ok⟩
/-- A store is one whose levels may be the program's own. -/
theorem St.two {base : Nat} {w : World} {Sb mb gb clock : Nat} {L : List (Nk × Nat × Nat)} {Z : Nat → Zs} {H : Nat → Bool} (hs : St base w Sb mb gb clock L Z H) : St2 base w Sb mb gb clock L Z H :=
  ⟨hs.sb, hs.mp, fun x hx => (hs.ents x hx).two, hs.lows, hs.great, hs.gne, hs.uniq⟩
end Go.Proofs.YtbgibiongnhjoaaGreat
