/- Plain facts: when a level's number is 0, and the rows of values that the specification tries. No program is named here. -/
import Derived.Test.YtdbepifdmcjjpaaGreatIt
namespace Go.Proofs.YtdbepifdmcjjpaaGreat

theorem weigh_nn (f : ByteArray → Int) (hf : ∀ s, 0 ≤ f s) : ∀ t : Tr, 0 ≤ t.weigh f
  | .leaf k s => by have := hf s; simp only [Tr.weigh]; split <;> omega
  | .one k s a => by have := weigh_nn f hf a; simp only [Tr.weigh]; omega
  | .two k s a b => by
    have := weigh_nn f hf a
    have := weigh_nn f hf b
    simp only [Tr.weigh, joinN]; split
    · omega
    · split <;> omega
/-- Whether a level's number is 0 hangs only on which values are 0, and the more are the rather. -/
theorem weigh_zero {f g : ByteArray → Int} (hf : ∀ s, 0 ≤ f s) (hg : ∀ s, 0 ≤ g s) : ∀ t : Tr, t.ok → (∀ s ∈ t.params, g s = 0 → f s = 0) → t.weigh g = 0 → t.weigh f = 0
  | .leaf k s, hok, h, h0 => by
    simp only [Tr.weigh] at h0 ⊢
    rcases hok.1 with rfl | rfl
    · simp
    · simp at h0 ⊢; exact h s (by simp [Tr.params]) h0
  | .one k s a, _, _, h0 => by
    have := weigh_nn g hg a
    simp only [Tr.weigh] at h0; omega
  | .two k s a b, hok, h, h0 => by
    have ha := weigh_zero hf hg a hok.2.2.1 (fun s hs => h s (by simp [Tr.params, hs]))
    have hb := weigh_zero hf hg b hok.2.2.2 (fun s hs => h s (by simp [Tr.params, hs]))
    have n1 := weigh_nn g hg a
    have n2 := weigh_nn g hg b
    simp only [Tr.weigh, joinN] at h0 ⊢
    rcases hok.1 with rfl | rfl
    · rw [if_neg (by omega)] at h0 ⊢
      have q1 : a.weigh g = 0 := by split at h0 <;> omega
      have q2 : b.weigh g = 0 := by split at h0 <;> omega
      rw [ha q1, hb q2]; simp
    · by_cases q : b.weigh g = 0
      · rw [if_pos ⟨rfl, hb q⟩]
      · rw [if_neg (by omega)] at h0
        exfalso; split at h0 <;> omega

theorem weigh_congr {f g : ByteArray → Int} : ∀ t : Tr, t.ok → (∀ s ∈ t.params, f s = g s) → t.weigh f = t.weigh g
  | .leaf k s, hok, h => by
    simp only [Tr.weigh]
    rcases hok.1 with rfl | rfl
    · simp
    · simp; exact h s (by simp [Tr.params])
  | .one k s a, hok, h => by simp only [Tr.weigh]; rw [weigh_congr a hok.2.2 h]
  | .two k s a b, hok, h => by
    simp only [Tr.weigh]
    rw [weigh_congr a hok.2.2.1 (fun s hs => h s (by simp [Tr.params, hs])), weigh_congr b hok.2.2.2 (fun s hs => h s (by simp [Tr.params, hs]))]

/-- When a level is 0: 0 never, 1 always, 2 sometimes. -/
def signN (t : Tr) : Int := if 0 < t.weigh (fun _ => 0) then 0 else if t.weigh (fun _ => 1) = 0 then 1 else 2
def zeroAt (t : Tr) (names : List ByteArray) (vs : List Int) : Bool := decide (t.weigh (valAt names vs) = 0)
theorem valAt_in {names : List ByteArray} {vs : List Int} {s : ByteArray} (h : hasB names s = true) (hl : vs.length = names.length) : valAt names vs s ∈ vs := by
  obtain ⟨h0, h1⟩ := atS_lt names s h
  unfold valAt
  have hi : (atS names s).toNat < vs.length := by omega
  rw [List.getD_eq_getElem?_getD, List.getElem?_eq_getElem hi, Option.getD_some]
  exact List.getElem_mem hi
theorem sign_zeros (t : Tr) (hok : t.ok) (names : List ByteArray) (hp : ∀ s ∈ t.params, hasB names s = true) (vss : List (List Int)) (h1 : ∀ vs ∈ vss, vs.length = names.length ∧ ∀ x ∈ vs, 0 ≤ x) (h2 : List.replicate names.length 0 ∈ vss) (h3 : List.replicate names.length 1 ∈ vss) :
    (if vss.countP (zeroAt t names) = 0 then (0 : Int) else if vss.countP (zeroAt t names) = vss.length then 1 else 2) = signN t := by
  have e0 : t.weigh (valAt names (List.replicate names.length 0)) = t.weigh (fun _ => 0) := weigh_congr t hok (fun s hs => by
    have := valAt_in (vs := List.replicate names.length 0) (hp s hs) (by simp)
    simp at this; exact this.2)
  have e1 : t.weigh (valAt names (List.replicate names.length 1)) = t.weigh (fun _ => 1) := weigh_congr t hok (fun s hs => by
    have := valAt_in (vs := List.replicate names.length 1) (hp s hs) (by simp)
    simp at this; exact this.2)
  have hpos : ∀ vs ∈ vss, ∀ s, hasB names s = true → 0 ≤ valAt names vs s := fun vs hvs s hs => (h1 vs hvs).2 _ (valAt_in hs (h1 vs hvs).1)
  have low : ∀ vs ∈ vss, zeroAt t names vs = true → t.weigh (fun _ => 0) = 0 := by
    intro vs hvs hz
    simp only [zeroAt, decide_eq_true_eq] at hz
    let g : ByteArray → Int := fun s => if hasB names s = true then valAt names vs s else 0
    have hg : ∀ s, 0 ≤ g s := fun s => by
      by_cases e : hasB names s = true
      · simp only [g, if_pos e]; exact hpos vs hvs s e
      · simp only [g, if_neg e]; omega
    have e : t.weigh g = t.weigh (valAt names vs) := weigh_congr t hok (fun s hs => by simp only [g, if_pos (hp s hs)])
    exact weigh_zero (f := fun _ => 0) (g := g) (fun _ => by omega) hg t hok (fun _ _ _ => rfl) (by rw [e, hz])
  have high : t.weigh (fun _ => 1) = 0 → ∀ vs ∈ vss, zeroAt t names vs = true := by
    intro hz vs hvs
    simp only [zeroAt, decide_eq_true_eq]
    let g : ByteArray → Int := fun s => if hasB names s = true then valAt names vs s else 0
    have hg : ∀ s, 0 ≤ g s := fun s => by
      by_cases e : hasB names s = true
      · simp only [g, if_pos e]; exact hpos vs hvs s e
      · simp only [g, if_neg e]; omega
    have e : t.weigh g = t.weigh (valAt names vs) := weigh_congr t hok (fun s hs => by simp only [g, if_pos (hp s hs)])
    rw [← e]
    exact weigh_zero (f := g) (g := fun _ => 1) hg (fun _ => by omega) t hok (fun _ _ h => by omega) hz
  have nn := weigh_nn (fun _ => 0) (fun _ => by omega) t
  unfold signN
  by_cases q0 : 0 < t.weigh (fun _ => 0)
  · rw [if_pos q0, if_pos]
    rw [List.countP_eq_zero]
    intro vs hvs hz
    have := low vs hvs hz
    omega
  · have z0 : t.weigh (fun _ => 0) = 0 := by omega
    rw [if_neg q0, if_neg]
    · by_cases q1 : t.weigh (fun _ => 1) = 0
      · rw [if_pos q1, if_pos]
        rw [List.countP_eq_length]
        exact high q1
      · rw [if_neg q1, if_neg]
        rw [List.countP_eq_length]
        intro h
        have := h _ h3
        simp only [zeroAt, decide_eq_true_eq] at this
        exact q1 (by rw [← e1, this])
    · rw [List.countP_eq_zero]
      intro h
      have := h _ h2
      apply this
      simp only [zeroAt, decide_eq_true_eq]
      rw [e0, z0]

/-- Whether place i is in the set. -/
def inSet (set i : Nat) : Bool := decide (set / 2 ^ i % 2 = 1)
def tryAt (set big i : Nat) : Int := if inSet set i then 0 else if i = big then 1000 else 1
/-- One row of values. -/
def tryRow (n set big : Nat) : List Int := (List.range n).map (tryAt set big)
def tryOk (n set big : Nat) : Bool := decide (big = n) || !inSet set big
/-- The rows of one set, up to a place. -/
def triesTo (n set : Nat) : Nat → List (List Int)
  | 0 => []
  | b + 1 => triesTo n set b ++ (if tryOk n set b then [tryRow n set b] else [])
/-- The rows of the first sets. -/
def triesOf (n : Nat) : Nat → List (List Int)
  | 0 => []
  | s + 1 => triesOf n s ++ triesTo n s (n + 1)
def tries (n : Nat) : List (List Int) := triesOf n (2 ^ n)
theorem tryRow_len (n set big : Nat) : (tryRow n set big).length = n := by simp [tryRow]
theorem tryRow_pos (n set big : Nat) : ∀ x ∈ tryRow n set big, 0 ≤ x ∧ x ≤ 1000 := by
  intro x hx
  simp only [tryRow, List.mem_map] at hx
  obtain ⟨i, _, rfl⟩ := hx
  unfold tryAt; split
  · omega
  · split <;> omega
theorem triesTo_mem {n set b : Nat} {vs : List Int} (h : vs ∈ triesTo n set b) : ∃ big, big < b ∧ tryOk n set big = true ∧ vs = tryRow n set big := by
  induction b with
  | zero => simp [triesTo] at h
  | succ b ih =>
    simp only [triesTo, List.mem_append] at h
    rcases h with h | h
    · obtain ⟨big, h1, h2⟩ := ih h
      exact ⟨big, by omega, h2⟩
    · by_cases e : tryOk n set b = true
      · rw [if_pos e] at h; simp at h; exact ⟨b, by omega, e, h⟩
      · rw [if_neg e] at h; simp at h
theorem triesTo_in {n set b big : Nat} (hb : big < b) (h : tryOk n set big = true) : tryRow n set big ∈ triesTo n set b := by
  induction b with
  | zero => omega
  | succ b ih =>
    simp only [triesTo, List.mem_append]
    by_cases e : big = b
    · subst e; right; rw [if_pos h]; simp
    · left; exact ih (by omega)
theorem triesOf_mem {n s : Nat} {vs : List Int} (h : vs ∈ triesOf n s) : ∃ set big, set < s ∧ big < n + 1 ∧ tryOk n set big = true ∧ vs = tryRow n set big := by
  induction s with
  | zero => simp [triesOf] at h
  | succ s ih =>
    simp only [triesOf, List.mem_append] at h
    rcases h with h | h
    · obtain ⟨set, big, h1, h2⟩ := ih h
      exact ⟨set, big, by omega, h2⟩
    · obtain ⟨big, h1, h2, h3⟩ := triesTo_mem h
      exact ⟨s, big, by omega, h1, h2, h3⟩
theorem triesOf_in {n s set big : Nat} (hs : set < s) (hb : big < n + 1) (h : tryOk n set big = true) : tryRow n set big ∈ triesOf n s := by
  induction s with
  | zero => omega
  | succ s ih =>
    simp only [triesOf, List.mem_append]
    by_cases e : set = s
    · subst e; right; exact triesTo_in hb h
    · left; exact ih (by omega)
theorem tries_zeros {n : Nat} (hn : n ≤ 6) : List.replicate n 0 ∈ tries n := by
  have e : List.replicate n 0 = tryRow n (2 ^ n - 1) n := by
    have : n = 0 ∨ n = 1 ∨ n = 2 ∨ n = 3 ∨ n = 4 ∨ n = 5 ∨ n = 6 := by omega
    rcases this with rfl | rfl | rfl | rfl | rfl | rfl | rfl <;> decide
  rw [e]
  have : 0 < 2 ^ n := Nat.two_pow_pos n
  exact triesOf_in (by omega) (by omega) (by simp [tryOk])
theorem tries_ones {n : Nat} (hn : n ≤ 6) : List.replicate n 1 ∈ tries n := by
  have e : List.replicate n 1 = tryRow n 0 n := by
    have : n = 0 ∨ n = 1 ∨ n = 2 ∨ n = 3 ∨ n = 4 ∨ n = 5 ∨ n = 6 := by omega
    rcases this with rfl | rfl | rfl | rfl | rfl | rfl | rfl <;> decide
  rw [e]
  have : 0 < 2 ^ n := Nat.two_pow_pos n
  exact triesOf_in (by omega) (by omega) (by simp [tryOk])
theorem tries_rows {n : Nat} : ∀ vs ∈ tries n, vs.length = n ∧ ∀ x ∈ vs, 0 ≤ x ∧ x ≤ 1000 := by
  intro vs h
  obtain ⟨set, big, _, _, _, rfl⟩ := triesOf_mem h
  exact ⟨tryRow_len _ _ _, tryRow_pos _ _ _⟩
end Go.Proofs.YtdbepifdmcjjpaaGreat
