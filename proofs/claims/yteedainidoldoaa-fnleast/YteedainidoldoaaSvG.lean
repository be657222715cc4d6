/- What the specification's search for the first cycle reads and finds, plain. -/
import Derived.Test.YteedainidoldoaaSvF
namespace Go.Proofs.Yteedainidoldoaa
open Go.ChangeShapes Go.WideShapes Go.ChangeAt Go.RowKit

theorem OutAt.cells {B : Nat} {cs : List Cn} {to : Cn} {w : World} {v : Value} {k : Nat} (h : OutAt B cs to w v (k + 1)) : ∃ go co, v = .slice (some ⟨go, 0, none⟩) (k + 1) co ∧ ∀ t, t < k → ∃ gr, (∀ W, Below w.heap.size w W → W.cell? ⟨go, t + 1, none⟩ = some (.slice (some ⟨gr, 0, none⟩) cs.length cs.length)) ∧
    ∀ W, Below w.heap.size w W → ∀ j (h : j < cs.length), W.cell? ⟨gr, j, none⟩ = some (.int .i64 (vl cs[j].n (ib (cs.map ctC) t (ctC cs[j]).b (ctC to).a))) := by
  obtain ⟨rows, h1, h2⟩ := h
  have h1' := h1
  rcases h1.2 with ⟨_, h3⟩ | ⟨go, co, cur, h3, _⟩
  · omega
  · subst h3
    refine ⟨go, co, rfl, fun t ht => ?_⟩
    obtain ⟨gr, h4, h5⟩ := h2 t (by omega)
    refine ⟨gr, fun W hW => ?_, fun W hW j hj => ?_⟩
    · refine keep_cell hW ?_
      rw [h1'.cellAt (t + 1) (by omega)]
      exact h4
    · refine keep_cell hW ?_
      rw [h5.cellAt j (by omega)]
      simp [rowT, hj]
theorem firstS_len (n : Nat) (cs : List Ct) (t : Nat) : (firstS n cs t).length ≤ n + 1 := by
  obtain ⟨o, h1, h2⟩ := firstS_least n cs t
  rw [h2]
  cases o with
  | none => simp
  | some p =>
    obtain ⟨l, s⟩ := p
    obtain ⟨a1, _, a3, _⟩ := h1
    show (lst cs l s).length ≤ n + 1
    rw [lst_len a3]
    omega
theorem cAt_map {cs : List Cn} {i : Nat} (h : i < cs.length) : cAt (cs.map ctC) i = ctC cs[i] := by
  unfold cAt
  simp [List.getD, h]
theorem cyQ_vl {cs : List Cn} {l t : Nat} (h : t < cs.length) : cyQ (cs.map ctC) l t = decide (0 < vl cs[t].n (ib (cs.map ctC) l (ctC cs[t]).b (ctC cs[t]).a)) := by
  unfold cyQ
  rw [cAt_map h, show (ctC cs[t]).n = cs[t].n from rfl, vl_pos]
/-- How many constraints may come at most. -/
def mostS (n : Nat) (found : List Nat) : Nat := if found = [] then n + 1 else found.length - 1
theorem stepS_no {n : Nat} {cs : List Ct} {found : List Nat} {s : Nat} (h : ∀ l, l < mostS n found → cyQ cs l s = false) : stepS n cs found s = found := by
  unfold stepS
  have hl := find_least (m := mostS n found) (p := fun l => cyQ cs l s)
  have e : (if found = [] then n + 1 else found.length - 1) = mostS n found := rfl
  rw [e]
  cases hf : (List.range (mostS n found)).find? (fun l => cyQ cs l s) with
  | none => rfl
  | some l =>
    rw [hf] at hl
    have h2 : cyQ cs l s = true := hl.2.1
    rw [h l hl.1] at h2
    cases h2
theorem stepS_yes {n : Nat} {cs : List Ct} {found : List Nat} {s l : Nat} (hl : l < mostS n found) (h : ∀ l', l' < l → cyQ cs l' s = false) (hq : cyQ cs l s = true) : stepS n cs found s = lst cs l s := by
  unfold stepS
  have hk := find_least (m := mostS n found) (p := fun l => cyQ cs l s)
  have e : (if found = [] then n + 1 else found.length - 1) = mostS n found := rfl
  rw [e]
  cases hf : (List.range (mostS n found)).find? (fun l => cyQ cs l s) with
  | none =>
    rw [hf] at hk
    have h2 : cyQ cs l s = false := hk l hl
    rw [h2] at hq
    cases hq
  | some l2 =>
    rw [hf] at hk
    obtain ⟨k1, k2, k3⟩ := hk
    have k2 : cyQ cs l2 s = true := k2
    have k3 : ∀ l', l' < l2 → cyQ cs l' s = false := k3
    have : l2 = l := by
      by_cases e1 : l2 < l
      · rw [h l2 e1] at k2; cases k2
      · by_cases e2 : l < l2
        · rw [k3 l e2] at hq; cases hq
        · omega
    subst this
    rfl
/-- Whether the specification's search for the next position stops at one. -/
def okN (cs : List Cn) (home left : Nat) (sum : Int) (last : Cn) (i : Nat) : Bool := joinB last (cs.getD i default) && (decide (vl (cs.getD i default).n (ib (cs.map ctC) left (ctC (cs.getD i default)).b home) ≠ NoW) && decide (0 < sum + vl (cs.getD i default).n (ib (cs.map ctC) left (ctC (cs.getD i default)).b home)))
theorem okN_next {cs : List Cn} {n : Int} (hok : consB n cs = true) {home left : Nat} (hleft : left ≤ 1000) {sum : Int} {last : Cn} (hb : -1 ≤ last.b) {i : Nat} (hi : i < cs.length) : okN cs home left sum last i = (jn (ctC last).b (ctC cs[i]) && gt0 (sum + cs[i].n) (ib (cs.map ctC) left (ctC cs[i]).b home)) := by
  obtain ⟨_, g4⟩ := consB_yes hok
  obtain ⟨s1, s2, s3, s4, s5, s6⟩ := g4 i hi
  have hc : ∀ c ∈ cs.map ctC, -1000 ≤ c.n ∧ c.n ≤ 1000 := fun c hc => by
    obtain ⟨d, hd, rfl⟩ := List.mem_map.1 hc
    obtain ⟨q, hq, rfl⟩ := List.getElem_of_mem hd
    have := g4 q hq
    exact ⟨this.2.2.2.2.1, this.2.2.2.2.2⟩
  unfold okN
  have e : cs.getD i default = cs[i] := by simp [List.getD, hi]
  rw [e, jn_ct hb s1, vl_gt0 (M := 1000 * (left : Int)) (ib_in hc left _ _) ⟨s5, s6⟩ (by omega)]
/-- One more position of the greedy list. -/
theorem gr_step {cs : List Cn} {n : Int} (hok : consB n cs = true) {home left : Nat} (hleft : left ≤ 1000) {sum : Int} {last : Cn} (hb : -1 ≤ last.b) (h : gt0 sum (ib (cs.map ctC) (left + 1) (ctC last).b home) = true) :
    ∃ i, ∃ hi : i < cs.length, gr (cs.map ctC) home (left + 1) sum (ctC last).b = i :: gr (cs.map ctC) home left (sum + cs[i].n) (ctC cs[i]).b ∧ gt0 (sum + cs[i].n) (ib (cs.map ctC) left (ctC cs[i]).b home) = true ∧ okN cs home left sum last i = true ∧ ∀ i', i' < i → okN cs home left sum last i' = false := by
  obtain ⟨i, h1, h2, h3, h4⟩ := next_some h
  have hi : i < cs.length := by simpa using h2
  rw [cAt_map hi] at h3 h4
  refine ⟨i, hi, ?_, h4, ?_, ?_⟩
  · rw [show gr (cs.map ctC) home (left + 1) sum (ctC last).b = match nextC (cs.map ctC) home left sum (ctC last).b with
      | some i => i :: gr (cs.map ctC) home left (sum + (cAt (cs.map ctC) i).n) (cAt (cs.map ctC) i).b
      | none => gr (cs.map ctC) home left sum (ctC last).b from rfl, h1]
    simp only
    rw [cAt_map hi]
    rfl
  · rw [okN_next hok hleft hb hi, h3]
    exact h4
  · intro i' hlt
    rw [okN_next hok hleft hb (by omega)]
    unfold nextC at h1
    obtain ⟨_, _, h6⟩ := List.findIdx?_eq_some_iff_getElem.1 h1
    have := h6 i' hlt
    simp only [List.getElem_map, Bool.not_eq_true] at this
    exact this
end Go.Proofs.Yteedainidoldoaa
