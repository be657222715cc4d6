/- The specification's Solve: rounds over all constraints. -/
import Derived.Test.YteedainidoldoaaSvB
import Derived.Test.YteedainidoldoaaCyc
namespace Go.Proofs.Yteedainidoldoaa
open Go.ChangeShapes Go.WideShapes Go.ChangeAt Go.RowKit

def stepV (ks : List Int) (c : Cn) : List Int := if 0 ≤ c.b ∧ ks.getD c.b.toNat 0 < valOf ks c.a + c.n then ks.set c.b.toNat (valOf ks c.a + c.n) else ks
def roundsV (cs : List Cn) (n : Nat) : Nat → List Int
  | 0 => List.replicate n 0
  | k + 1 => cs.foldl stepV (roundsV cs n k)
/-- A constraint with its sides counted from 0 on. -/
def ctC (c : Cn) : Ct := ⟨(c.a + 1).toNat, c.n, (c.b + 1).toNat⟩
def fnV (ks : List Int) : Nat → Int := fun j => if j = 0 then 0 else ks.getD (j - 1) 0
theorem fnV_val (ks : List Int) (s : Int) (h : -1 ≤ s) : fnV ks (s + 1).toNat = valOf ks s := by
  unfold fnV valOf
  by_cases e : s < 0
  · rw [if_pos e, if_pos (by omega)]
  · rw [if_neg e, if_neg (by omega), show (s + 1).toNat - 1 = s.toNat by omega]
theorem stepV_fn (ks : List Int) (c : Cn) (ha : -1 ≤ c.a) (hb : -1 ≤ c.b) (hl : c.b < ks.length) : fnV (stepV ks c) = rStep (fnV ks) (ctC c) := by
  unfold rStep stepV ctC
  simp only
  rw [fnV_val ks c.a ha]
  have hv := fnV_val ks c.b hb
  rw [hv]
  by_cases h0 : 0 ≤ c.b
  · have e1 : valOf ks c.b = ks.getD c.b.toNat 0 := by unfold valOf; rw [if_neg (by omega)]
    rw [e1]
    by_cases h1 : ks.getD c.b.toNat 0 < valOf ks c.a + c.n
    · rw [if_pos ⟨h0, h1⟩, if_pos ⟨by omega, h1⟩]
      funext j
      by_cases e : j = (c.b + 1).toNat
      · subst e
        rw [upN_same]
        unfold fnV
        rw [if_neg (by omega), show (c.b + 1).toNat - 1 = c.b.toNat by omega]
        have hl' : c.b.toNat < ks.length := by omega
        simp [List.getD, hl']
      · rw [upN_ne _ _ e]
        unfold fnV
        by_cases e0 : j = 0
        · rw [if_pos e0, if_pos e0]
        · rw [if_neg e0, if_neg e0]
          simp only [List.getD, List.getElem?_set]
          rw [if_neg (by omega)]
    · rw [if_neg (fun h => h1 h.2), if_neg (fun h => h1 h.2)]
  · rw [if_neg (fun h => h0 h.1), if_neg (fun h => h.1 (by omega))]
theorem stepV_len (ks : List Int) (c : Cn) : (stepV ks c).length = ks.length := by unfold stepV; split <;> simp
theorem foldV_fn : ∀ (cs : List Cn) (ks : List Int), (∀ c ∈ cs, -1 ≤ c.a ∧ -1 ≤ c.b ∧ c.b < ks.length) → fnV (cs.foldl stepV ks) = (cs.map ctC).foldl rStep (fnV ks) ∧ (cs.foldl stepV ks).length = ks.length
  | [], ks, _ => ⟨rfl, rfl⟩
  | c :: cs, ks, h => by
    obtain ⟨h1, h2, h3⟩ := h c (List.mem_cons_self ..)
    have ih := foldV_fn cs (stepV ks c) (fun c' hc' => by rw [stepV_len]; exact h c' (List.mem_cons_of_mem _ hc'))
    rw [List.foldl_cons, List.map_cons, List.foldl_cons, ← stepV_fn ks c h1 h2 h3]
    exact ⟨ih.1, by rw [ih.2, stepV_len]⟩
theorem roundsV_fn (cs : List Cn) (n : Nat) (h : ∀ c ∈ cs, -1 ≤ c.a ∧ -1 ≤ c.b ∧ c.b < n) : ∀ k, fnV (roundsV cs n k) = rRounds (cs.map ctC) k ∧ (roundsV cs n k).length = n
  | 0 => by
    refine ⟨?_, by simp [roundsV]⟩
    funext j
    unfold fnV roundsV rRounds
    split
    · rfl
    · simp only [List.getD, List.getElem?_replicate]
      split <;> rfl
  | k + 1 => by
    obtain ⟨h1, h2⟩ := roundsV_fn cs n h k
    have h3 := foldV_fn cs (roundsV cs n k) (fun c hc => by rw [h2]; exact h c hc)
    refine ⟨?_, by show (cs.foldl stepV (roundsV cs n k)).length = n; rw [h3.2, h2]⟩
    show fnV (cs.foldl stepV (roundsV cs n k)) = rRound (cs.map ctC) (rRounds (cs.map ctC) k)
    rw [h3.1, h1]
    rfl
/-- Numbers that lie between 0 and a bound. -/
def In0 (M : Int) (ks : List Int) : Prop := ∀ k ∈ ks, 0 ≤ k ∧ k ≤ M
theorem in0_val {M : Int} {ks : List Int} (h : In0 M ks) (hM : 0 ≤ M) (s : Int) : 0 ≤ valOf ks s ∧ valOf ks s ≤ M := by
  unfold valOf
  split
  · omega
  · by_cases e : s.toNat < ks.length
    · rw [show ks.getD s.toNat 0 = ks[s.toNat] by simp [List.getD, e]]
      exact h _ (List.getElem_mem e)
    · rw [show ks.getD s.toNat 0 = 0 by simp [List.getD, e]]
      omega
theorem stepV_in {M : Int} {ks : List Int} {c : Cn} (h : In0 M ks) (hM : 0 ≤ M) (hn : c.n ≤ 1000) : In0 (M + 1000) (stepV ks c) := by
  unfold stepV
  split
  · rename_i hc
    intro k hk
    rcases List.mem_or_eq_of_mem_set hk with hk | rfl
    · have := h k hk; omega
    · have h1 := in0_val h hM c.a
      have h2 : 0 ≤ ks.getD c.b.toNat 0 := by
        have := (in0_val h hM c.b).1
        unfold valOf at this
        rw [if_neg (by omega)] at this
        exact this
      omega
  · intro k hk; have := h k hk; omega
/-- What the specification's Solve answers. -/
def solS (n : Int) (cs : List Cn) : List Int × List Int × Bool :=
  if consB n cs = false then ([], [], false)
  else if meetsB (roundsV cs n.toNat (n.toNat + 2)) cs = true then (roundsV cs n.toNat (n.toNat + 2), [], true)
  else ([], (firstS n.toNat (cs.map ctC) cs.length).map (fun i : Nat => (i : Int)), false)
def SoOut (r : List Int × List Int × Bool) (w : World) (e : Ending) (w' : World) : Prop :=
  ∃ v1 v2, e = .returned (.tuple #[v1, v2, .bool r.2.2]) ∧ IntsAt w' v1 r.1 ∧ IntsAt w' v2 r.2.1 ∧ Below w.heap.size w w'
theorem ints_row {w : World} {base g n cap : Nat} {ks : List Int} (h : w.ownsRow base 3 1 (.slice (some ⟨g, 0, none⟩) n cap) n (ks.map (fun k => .int .i64 k))) (hl : ks.length = n) : IntsAt w (.slice (some ⟨g, 0, none⟩) n cap) ks := by
  refine ownsRow_ints h ?_ ?_
  · exact hl.symm
  · intro j hj
    simp [hj]
end Go.Proofs.Yteedainidoldoaa
