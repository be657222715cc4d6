/- The program's greatest sums as numbers, and what they have to do with ways: where there is no way, the number stays far below 0. No program is walked here. -/
import Derived.Test.YteedainidoldoaaSvB
namespace Go.Proofs.Yteedainidoldoaa

def noW : Int := -4611686018427387904
def mxI (a b : Int) : Int := if a < b then b else a
/-- The greatest sum as the program reckons it. -/
def pb (cs : List Ct) : Nat → Nat → Nat → Int
  | 0, s, home => if s = 0 ∨ s = home then 0 else noW
  | k + 1, s, home => cs.foldl (fun acc c => if jn s c = true then mxI acc (c.n + pb cs k c.b home) else acc) noW
/-- How a number stands for a greatest sum, or for none. -/
def PR (k : Nat) (o : Option Int) (p : Int) : Prop := match o with
  | some v => p = v ∧ -1000 * (k : Int) ≤ v ∧ v ≤ 1000 * (k : Int)
  | none => noW - 1000 ≤ p ∧ p ≤ noW + 1000 * (k : Int)
theorem PR.max {k : Nat} {a b : Option Int} {p q : Int} (hk : k ≤ 1000) (h1 : PR k a p) (h2 : PR k b q) : PR k (omax a b) (mxI p q) := by
  unfold mxI
  cases a with
  | none => cases b with
    | none =>
      simp only [PR, omax] at *
      by_cases h : p < q
      · rw [if_pos h]; exact h2
      · rw [if_neg h]; exact h1
    | some y =>
      simp only [PR, omax] at *
      unfold noW at *
      rw [if_pos (by omega)]
      exact h2
  | some x => cases b with
    | none =>
      simp only [PR, omax] at *
      unfold noW at *
      rw [if_neg (by omega)]
      exact h1
    | some y =>
      simp only [PR, omax] at *
      obtain ⟨rfl, h3, h4⟩ := h1
      obtain ⟨rfl, h5, h6⟩ := h2
      by_cases h : p < q
      · simp only [if_pos h]; exact ⟨trivial, h5, h6⟩
      · simp only [if_neg h]; exact ⟨trivial, h3, h4⟩
theorem PR.add {k : Nat} {o : Option Int} {p n : Int} (h : PR k o p) (hp : noW ≤ p) (h1 : -1000 ≤ n) (h2 : n ≤ 1000) : PR (k + 1) (o.map (fun v => n + v)) (n + p) := by
  cases o with
  | none =>
    simp only [PR, Option.map] at *
    omega
  | some v =>
    simp only [PR, Option.map] at *
    obtain ⟨rfl, h3, h4⟩ := h
    exact ⟨rfl, by omega, by omega⟩
theorem mxI_l (a b : Int) : a ≤ mxI a b := by unfold mxI; split <;> omega
theorem fold_low (f : Ct → Int) (p : Ct → Bool) : ∀ (l : List Ct) (acc : Int), acc ≤ l.foldl (fun acc c => if p c = true then mxI acc (f c) else acc) acc
  | [], acc => Int.le_refl _
  | c :: l, acc => by
    rw [List.foldl_cons]
    refine Int.le_trans ?_ (fold_low f p l _)
    split
    · exact mxI_l _ _
    · exact Int.le_refl _
theorem pb_low (cs : List Ct) (k s home : Nat) : noW ≤ pb cs k s home := by
  cases k with
  | zero => unfold pb; split <;> unfold noW <;> omega
  | succ k => unfold pb; exact fold_low _ _ _ _
theorem pb_rel {cs : List Ct} (hn : ∀ c ∈ cs, -1000 ≤ c.n ∧ c.n ≤ 1000) : ∀ k s home, k ≤ 1000 → PR k (ib cs k s home) (pb cs k s home)
  | 0, s, home, _ => by
    unfold ib pb
    by_cases h : s = 0 ∨ s = home
    · rw [if_pos h, if_pos h]; exact ⟨rfl, by omega, by omega⟩
    · rw [if_neg h, if_neg h]; exact ⟨by omega, by omega⟩
  | k + 1, s, home, hk => by
    unfold ib pb
    have go : ∀ (l : List Ct) (a : Option Int) (p : Int), (∀ c ∈ l, -1000 ≤ c.n ∧ c.n ≤ 1000) → PR (k + 1) a p → PR (k + 1) (l.foldl (fun acc c => if jn s c = true then omax acc ((ib cs k c.b home).map (fun v => c.n + v)) else acc) a) (l.foldl (fun acc c => if jn s c = true then mxI acc (c.n + pb cs k c.b home) else acc) p) := by
      intro l
      induction l with
      | nil => intro a p _ h; exact h
      | cons c l ih =>
        intro a p hl h
        rw [List.foldl_cons, List.foldl_cons]
        refine ih _ _ (fun d hd => hl d (List.mem_cons_of_mem _ hd)) ?_
        obtain ⟨h1, h2⟩ := hl c (List.mem_cons_self ..)
        by_cases e : jn s c = true
        · rw [if_pos e, if_pos e]
          exact h.max (by omega) ((pb_rel hn k c.b home (by omega)).add (pb_low _ _ _ _) h1 h2)
        · rw [if_neg e, if_neg e]; exact h
    exact go cs none noW hn ⟨by omega, by omega⟩
/-- The program's test is the one over ways. -/
theorem pb_gt {cs : List Ct} (hn : ∀ c ∈ cs, -1000 ≤ c.n ∧ c.n ≤ 1000) {k s home : Nat} (hk : k ≤ 1000) {sum : Int} (hs : sum ≤ 1000000) : decide (0 < sum + pb cs k s home) = gt0 sum (ib cs k s home) := by
  have h := pb_rel hn k s home hk
  revert h
  generalize pb cs k s home = p
  cases ib cs k s home with
  | none =>
    intro h
    simp only [PR, gt0] at *
    unfold noW at *
    simp
    omega
  | some v =>
    intro h
    simp only [PR, gt0] at *
    rw [h.1]
/-- No number is near the edge. -/
theorem pb_rng {cs : List Ct} (hn : ∀ c ∈ cs, -1000 ≤ c.n ∧ c.n ≤ 1000) {k : Nat} (s home : Nat) (hk : k ≤ 1000) : noW ≤ pb cs k s home ∧ pb cs k s home ≤ 1000000 := by
  have h := pb_rel hn k s home hk
  refine ⟨pb_low _ _ _ _, ?_⟩
  revert h
  cases ib cs k s home with
  | none => intro h; simp only [PR] at h; unfold noW at h; omega
  | some v => intro h; simp only [PR] at h; omega
end Go.Proofs.Yteedainidoldoaa
