/- Plain facts for ParseLevel: the program's reader takes every text of the grammar; what both readers make of it is the same level or too great for both. No program is named here. -/
import Derived.Test.YtlmhpdmgjfankaaDoorPaI
import Derived.Test.YtlmhpdmgjfankaaDoorSzL
namespace Go.Proofs.YtlmhpdmgjfankaaDoor

/-- What a part of a text may be followed by. -/
def stopD : Bs → Prop
  | [] => True
  | c :: _ => digU c = false ∧ goesU c = false
theorem tw_stop {p : UInt8 → Bool} {a r : Bs} (h : a.all p = true) (hr : ∀ c s, r = c :: s → p c = false) : (a ++ r).takeWhile p = a ∧ (a ++ r).dropWhile p = r := by
  induction a with
  | nil =>
    cases r with
    | nil => simp
    | cons c s => have := hr c s rfl; simp [this]
  | cons x a ih =>
    simp only [List.all_cons, Bool.and_eq_true] at h
    have := ih h.2
    simp [h.1, this]
theorem stop_dig {r : Bs} (h : stopD r) : ∀ c s, r = c :: s → digU c = false := fun c s e => by subst e; exact h.1
theorem stop_goes {r : Bs} (h : stopD r) : ∀ c s, r = c :: s → goesU c = false := fun c s e => by subst e; exact h.2
theorem pPlus_fuel : ∀ (m m' : Nat) (x : It) (s : Bs), s.length < m → s.length < m' → pPlus m x s = pPlus m' x s := by
  intro m
  induction m with
  | zero => intro m' x s h; omega
  | succ m ih =>
    intro m' x s h h'
    obtain ⟨m', rfl⟩ : ∃ k, m' = k + 1 := ⟨m' - 1, by omega⟩
    cases s with
    | nil => rfl
    | cons c s =>
      simp only [pPlus]
      have hl : (s.dropWhile digU).length ≤ s.length := (List.dropWhile_sublist digU).length_le
      simp only [List.length_cons] at h h'
      rw [ih m' _ _ (by omega) (by omega)]
theorem pPlus_stop (m : Nat) (x : It) (c : UInt8) (r : Bs) (h : c ≠ 43) : pPlus (m + 1) x (c :: r) = some (x, c :: r) := by
  simp [pPlus, h]
theorem okNum_all {d : Bs} (h : okNum d = true) : d.all digU = true ∧ d ≠ [] := by
  unfold okNum at h
  simp only [Bool.and_eq_true, decide_eq_true_eq] at h
  exact ⟨h.2, fun e => by rw [e] at h; simp at h⟩
theorem name_all {s : Bs} (h : okName s = true) : s.all goesU = true ∧ shortB ⟨s.toArray⟩ = true ∧ s ≠ [109, 97, 120] ∧ s ≠ [105, 109, 97, 120] ∧ ∃ c r, s = c :: r ∧ digU c = false := by
  have h' := h
  unfold okName paramB at h'
  rw [tl_mk] at h'
  simp only [Bool.and_eq_true, Bool.not_eq_true', beq_eq_false_iff_ne] at h'
  have hs := h'.1.1
  unfold shortB at hs
  simp only [Bool.and_eq_true] at hs
  refine ⟨hs.2, h'.1.1, h'.1.2, h'.2, ?_⟩
  have hh := name_head h
  cases s with
  | nil => exact absurd hs.1.2 (by simp [headOk])
  | cons c r =>
    refine ⟨c, r, rfl, ?_⟩
    have hl : letB (c.toNat : Int) = true := hs.1.2
    unfold digU
    unfold letB at hl
    simp only [Bool.or_eq_true, Bool.and_eq_true, decide_eq_true_eq] at hl
    rw [Bool.and_eq_false_iff]
    simp only [decide_eq_false_iff_not]
    omega
theorem pPair_complete {n : Nat} {a b r : Bs} {x y : Lx} (ha : ∀ r, stopD r → pR n (a ++ r) = pPlus (r.length + 1) x.it r) (hb : ∀ r, stopD r → pR n (b ++ r) = pPlus (r.length + 1) y.it r) : pPair (pR n) ([40] ++ a ++ [44] ++ b ++ [41] ++ r) = some (x.it, y.it, r) := by
  have e1 : pR n (a ++ ([44] ++ b ++ [41] ++ r)) = some (x.it, 44 :: (b ++ [41] ++ r)) := by
    rw [ha _ (by simp [stopD]; decide)]
    simp only [List.cons_append, List.nil_append]
    rw [pPlus_stop _ _ _ _ (by decide)]
  have e2 : pR n (b ++ ([41] ++ r)) = some (y.it, 41 :: r) := by
    rw [hb _ (by simp [stopD]; decide)]
    simp only [List.cons_append, List.nil_append]
    rw [pPlus_stop _ _ _ _ (by decide)]
  rw [show [40] ++ a ++ [44] ++ b ++ [41] ++ r = 40 :: (a ++ ([44] ++ b ++ [41] ++ r)) by simp]
  simp only [pPair, if_true, e1]
  rw [show b ++ [41] ++ r = b ++ ([41] ++ r) by simp, e2]
  simp
theorem pR_complete {p : Bs} {e : Lx} (h : G p e) : ∀ (n : Nat) (r : Bs), p.length < n → stopD r → pR n (p ++ r) = pPlus (r.length + 1) e.it r := by
  induction h with
  | num d h =>
    intro n r hn hr
    obtain ⟨n, rfl⟩ : ∃ m, n = m + 1 := ⟨n - 1, by omega⟩
    obtain ⟨h1, h2⟩ := okNum_all h
    obtain ⟨t1, t2⟩ := tw_stop h1 (stop_dig hr)
    simp only [pR, pB, t1, t2]
    rw [if_pos h2, if_pos h]; rfl
  | name s h =>
    intro n r hn hr
    obtain ⟨n, rfl⟩ : ∃ m, n = m + 1 := ⟨n - 1, by omega⟩
    obtain ⟨h1, h2, h3, h4, c, q, h5, h6⟩ := name_all h
    obtain ⟨t1, t2⟩ := tw_stop h1 (stop_goes hr)
    have t3 : (s ++ r).takeWhile digU = [] := by rw [h5]; simp [h6]
    simp only [pR, pB, t1, t2, t3]
    rw [if_neg (by simp), if_neg h3, if_neg h4, if_pos h2]; rfl
  | max a b x y ha hb iha ihb =>
    intro n r hn hr
    obtain ⟨n, rfl⟩ : ∃ m, n = m + 1 := ⟨n - 1, by omega⟩
    simp only [List.length_append, List.length_cons, List.length_nil] at hn
    have hp := pPair_complete (n := n) (r := r) (fun r hr => iha n r (by omega) hr) (fun r hr => ihb n r (by omega) hr)
    have ht := tw_stop (p := goesU) (a := [109, 97, 120]) (r := [40] ++ a ++ [44] ++ b ++ [41] ++ r) (by decide) (fun c s e => by simp at e; rw [← e.1]; decide)
    have hd : ([109, 97, 120] ++ ([40] ++ a ++ [44] ++ b ++ [41] ++ r)).takeWhile digU = [] := by simp [digU]
    rw [show [109, 97, 120, 40] ++ a ++ [44] ++ b ++ [41] ++ r = [109, 97, 120] ++ ([40] ++ a ++ [44] ++ b ++ [41] ++ r) by simp]
    simp only [pR, pB, ht.1, ht.2, hd, hp]
    simp; rfl
  | imax a b x y ha hb iha ihb =>
    intro n r hn hr
    obtain ⟨n, rfl⟩ : ∃ m, n = m + 1 := ⟨n - 1, by omega⟩
    simp only [List.length_append, List.length_cons, List.length_nil] at hn
    have hp := pPair_complete (n := n) (r := r) (fun r hr => iha n r (by omega) hr) (fun r hr => ihb n r (by omega) hr)
    have ht := tw_stop (p := goesU) (a := [105, 109, 97, 120]) (r := [40] ++ a ++ [44] ++ b ++ [41] ++ r) (by decide) (fun c s e => by simp at e; rw [← e.1]; decide)
    have hd : ([105, 109, 97, 120] ++ ([40] ++ a ++ [44] ++ b ++ [41] ++ r)).takeWhile digU = [] := by simp [digU]
    rw [show [105, 109, 97, 120, 40] ++ a ++ [44] ++ b ++ [41] ++ r = [105, 109, 97, 120] ++ ([40] ++ a ++ [44] ++ b ++ [41] ++ r) by simp]
    simp only [pR, pB, ht.1, ht.2, hd, hp]
    simp; rfl
  | plus a d x ha h iha =>
    intro n r hn hr
    simp only [List.length_append, List.length_cons, List.length_nil] at hn
    obtain ⟨h1, h2⟩ := okNum_all h
    obtain ⟨t1, t2⟩ := tw_stop h1 (stop_dig hr)
    rw [show a ++ [43] ++ d ++ r = a ++ (43 :: (d ++ r)) by simp, iha n _ (by omega) (by simp [stopD]; decide)]
    simp only [pPlus, if_true, t1, t2]
    rw [if_pos h]
    exact pPlus_fuel _ _ _ _ (by simp; omega) (by omega)

/-- The tree with all that stands around. -/
def Lx.full : Lx → Tr
  | .num n => tsucc n zeroT
  | .name s => nameT s
  | .max a b => .two 3 ⟨#[]⟩ a.full b.full
  | .imax a b => .two 4 ⟨#[]⟩ a.full b.full
  | .plus a n => tsucc n a.full
theorem tsucc_it (n : Nat) (t : Tr) : (tsucc n t).it = sA0 n t.it := by
  induction n with
  | zero => rfl
  | succ n ih =>
    simp only [tsucc, Tr.it, ih, sA0]
    by_cases h : n = 0
    · subst h; simp only [if_true]; cases t.it <;> simp [sAround, sAroundN]
    · rw [if_neg h, if_neg (by omega), around_aroundN]
theorem full_it : ∀ e : Lx, e.full.it = e.it
  | .num n => by simp [Lx.full, Lx.it, tsucc_it, zeroT, Tr.it]
  | .name s => by simp [Lx.full, Lx.it, nameT, Tr.it]
  | .max a b => by simp [Lx.full, Lx.it, Tr.it, full_it a, full_it b]
  | .imax a b => by simp [Lx.full, Lx.it, Tr.it, full_it a, full_it b]
  | .plus a n => by simp [Lx.full, Lx.it, tsucc_it, full_it a]
theorem tsucc_cnt (n : Nat) (t : Tr) : (tsucc n t).cnt = n + t.cnt := by
  induction n with
  | zero => simp [tsucc]
  | succ n ih => simp only [tsucc, Tr.cnt, ih]; omega
theorem tsucc_ok {t : Tr} (h : t.ok) : ∀ n, (tsucc n t).ok
  | 0 => h
  | n + 1 => ⟨rfl, fields_empty (by omega), tsucc_ok h n⟩
theorem zeroT_ok : zeroT.ok := ⟨.inl rfl, fields_empty (by omega)⟩
theorem full_ok {s : Bs} {e : Lx} (h : G s e) : e.full.ok ∧ e.tr.ok := by
  induction h with
  | num d h => exact ⟨tsucc_ok zeroT_ok _, tsucc_ok zeroT_ok _⟩
  | name s h =>
    have : (nameT s).ok := ⟨.inr rfl, by show fieldsB ⟨5, ⟨s.toArray⟩, []⟩ = true; unfold fieldsB; rw [if_pos rfl]; exact h⟩
    exact ⟨this, this⟩
  | max a b x y _ _ iha ihb => exact ⟨⟨.inl rfl, fields_empty (by omega), iha.1, ihb.1⟩, ⟨.inl rfl, fields_empty (by omega), iha.2, ihb.2⟩⟩
  | imax a b x y _ _ iha ihb => exact ⟨⟨.inr rfl, fields_empty (by omega), iha.1, ihb.1⟩, ⟨.inr rfl, fields_empty (by omega), iha.2, ihb.2⟩⟩
  | plus a d x _ _ iha => exact ⟨tsucc_ok iha.1 _, tsucc_ok iha.2 _⟩
theorem full_tr : ∀ e : Lx, e.tr.cnt ≤ e.full.cnt ∧ (e.tr.cnt ≤ 64 → e.full = e.tr)
  | .num n => by
    refine ⟨by simp only [Lx.tr, Lx.full, manyT, tsucc_cnt]; omega, fun h => ?_⟩
    simp only [Lx.tr, Lx.full, manyT, tsucc_cnt] at h ⊢
    rw [show min n 65 = n by omega]
  | .name s => ⟨Nat.le_refl _, fun _ => rfl⟩
  | .max a b => by
    have ha := full_tr a; have hb := full_tr b
    refine ⟨by simp only [Lx.tr, Lx.full, Tr.cnt]; omega, fun h => ?_⟩
    simp only [Lx.tr, Lx.full, Tr.cnt] at h ⊢
    rw [ha.2 (by omega), hb.2 (by omega)]
  | .imax a b => by
    have ha := full_tr a; have hb := full_tr b
    refine ⟨by simp only [Lx.tr, Lx.full, Tr.cnt]; omega, fun h => ?_⟩
    simp only [Lx.tr, Lx.full, Tr.cnt] at h ⊢
    rw [ha.2 (by omega), hb.2 (by omega)]
  | .plus a n => by
    have ha := full_tr a
    refine ⟨by simp only [Lx.tr, Lx.full, manyT, tsucc_cnt]; omega, fun h => ?_⟩
    simp only [Lx.tr, Lx.full, manyT, tsucc_cnt] at h ⊢
    rw [ha.2 (by omega), show min n 65 = n by omega]
theorem full_sized (e : Lx) : sizedR e.full = sizedR e.tr := by
  obtain ⟨h1, h2⟩ := full_tr e
  by_cases h : e.tr.cnt ≤ 64
  · rw [h2 h]
  · unfold sizedR fitsB
    rw [if_neg (by simp; omega), if_neg (by simp; omega)]
theorem num_le {d : Bs} (h : okNum d = true) : numU d ≤ 9999 := by
  unfold okNum at h
  simp only [Bool.and_eq_true, decide_eq_true_eq, List.all_eq_true] at h
  obtain ⟨⟨h1, h2⟩, h3⟩ := h
  have hd : ∀ c ∈ d, c.toNat - 48 ≤ 9 := fun c hc => by
    have := h3 c hc
    unfold digU at this
    simp only [Bool.and_eq_true, decide_eq_true_eq] at this
    omega
  match d, h2, hd with
  | [], _, _ => simp [numU]
  | [a], _, hd => have := hd a (by simp); simp [numU]; omega
  | [a, b], _, hd => have := hd a (by simp); have := hd b (by simp); simp [numU]; omega
  | [a, b, c], _, hd => have := hd a (by simp); have := hd b (by simp); have := hd c (by simp); simp [numU]; omega
  | [a, b, c, e], _, hd => have := hd a (by simp); have := hd b (by simp); have := hd c (by simp); have := hd e (by simp); simp [numU]; omega
/-- How great a tree a text may ask for. -/
theorem full_cnt {s : Bs} {e : Lx} (h : G s e) : e.full.cnt ≤ 10000 * s.length ∧ 1 ≤ s.length := by
  induction h with
  | num d h =>
    have := num_le h
    have h2 := (okNum_all h).2
    have : 1 ≤ d.length := by cases d with | nil => exact absurd rfl h2 | cons c r => simp
    refine ⟨?_, this⟩
    simp only [Lx.full, tsucc_cnt, zeroT, Tr.cnt]; omega
  | name s h =>
    obtain ⟨_, _, _, _, c, r, h5, _⟩ := name_all h
    refine ⟨?_, by rw [h5]; simp⟩
    rw [h5]; simp only [Lx.full, nameT, Tr.cnt, List.length_cons]; omega
  | max a b x y _ _ iha ihb => simp only [Lx.full, Tr.cnt, List.length_append, List.length_cons, List.length_nil]; omega
  | imax a b x y _ _ iha ihb => simp only [Lx.full, Tr.cnt, List.length_append, List.length_cons, List.length_nil]; omega
  | plus a d x _ h iha =>
    have := num_le h
    simp only [Lx.full, tsucc_cnt, List.length_append, List.length_cons, List.length_nil]; omega
end Go.Proofs.YtlmhpdmgjfankaaDoor
