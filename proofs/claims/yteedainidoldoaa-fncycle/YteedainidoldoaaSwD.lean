/- The program's list, plain: what it looks for at each place, and what it comes to. No program is walked here. -/
import Derived.Test.YteedainidoldoaaSwC
namespace Go.Proofs.Yteedainidoldoaa

/-- What comes behind: nothing was put yet, or the greedy rest is still to come. -/
def Nxt (cs : List Cn) (l s k : Nat) (p : List Nat) (sum side home : Int) : Prop :=
  (p = [] ∧ k = l + 1 ∧ sum = 0 ∧ side = -1) ∨
  (p ≠ [] ∧ p ++ gr (cs.map ctC) (home + 1).toNat k sum (side + 1).toNat = lst (cs.map ctC) l s ∧ gt0 sum (ib (cs.map ctC) k (side + 1).toNat (home + 1).toNat) = true)
/-- The home that a constraint is tried with. -/
def hmOf (p : List Nat) (home : Int) (c : Cn) : Int := if p = [] then c.a else home
/-- The program's test. -/
def psC (cs : List Cn) (k : Nat) (p : List Nat) (sum home : Int) (c : Cn) : Bool := decide (0 < sum + c.n + pb (cs.map ctC) k (c.b + 1).toNat (hmOf p home c + 1).toNat)
theorem cAt_map {cs : List Cn} {i : Nat} (hi : i < cs.length) : cAt (cs.map ctC) i = ctC cs[i] := by
  unfold cAt
  simp [List.getD, hi]
theorem ct_rng {cs : List Cn} (hc : ∀ c ∈ cs, -1000 ≤ c.n ∧ c.n ≤ 1000) : ∀ c ∈ cs.map ctC, -1000 ≤ c.n ∧ c.n ≤ 1000 := by
  intro c h
  obtain ⟨d, hd, rfl⟩ := List.mem_map.1 h
  exact hc d hd
theorem psC_gt {cs : List Cn} (hc : ∀ c ∈ cs, -1000 ≤ c.n ∧ c.n ≤ 1000) {k : Nat} (hk : k ≤ 1000) {p : List Nat} {sum home : Int} (hs : sum ≤ 100000) {c : Cn} (hcm : c ∈ cs) : psC cs k p sum home c = gt0 (sum + c.n) (ib (cs.map ctC) k (c.b + 1).toNat (hmOf p home c + 1).toNat) := by
  unfold psC
  have := (hc c hcm).2
  exact pb_gt (ct_rng hc) hk (by omega)
/-- At each place there is a constraint that can stand, and behind the first such it goes on. -/
theorem nxt_step {cs : List Cn} (hc : ∀ c ∈ cs, -1000 ≤ c.n ∧ c.n ≤ 1000) (ha : ∀ c ∈ cs, -1 ≤ c.a) {l s k : Nat} (hs : s < cs.length) (hq : cyQ (cs.map ctC) l s = true) (hmin : ∀ t, t < s → cyQ (cs.map ctC) l t = false) (hk : k ≤ 1000) {p : List Nat} {sum side home : Int} (hsum : sum ≤ 100000) (hside : -1 ≤ side)
    (h : Nxt cs l s (k + 1) p sum side home) : ∃ t, ∃ ht : t < cs.length, jc side cs[t] = true ∧ psC cs k p sum home cs[t] = true ∧ (∀ j (hj : j < t), jc side cs[j] = true → psC cs k p sum home cs[j] = false) ∧ Nxt cs l s k (p ++ [t]) (sum + cs[t].n) cs[t].b (hmOf p home cs[t]) := by
  rcases h with ⟨rfl, hkl, rfl, rfl⟩ | ⟨hp, hg, h0⟩
  · have hkl2 : k = l := by omega
    subst hkl2
    have e : ∀ j (hj : j < cs.length), psC cs k [] 0 home cs[j] = cyQ (cs.map ctC) k j := by
      intro j hj
      rw [psC_gt hc hk (by omega) (List.getElem_mem hj)]
      unfold cyQ hmOf
      rw [cAt_map hj, Int.zero_add]
      rfl
    refine ⟨s, hs, by simp [jc], by rw [e s hs]; exact hq, fun j hj _ => by rw [e j (by omega)]; exact hmin j hj, .inr ⟨by simp, ?_, ?_⟩⟩
    · unfold lst hmOf
      rw [cAt_map hs, Int.zero_add]
      rfl
    · unfold cyQ at hq
      rw [cAt_map hs] at hq
      unfold hmOf
      rw [Int.zero_add]
      exact hq
  · obtain ⟨i, h1, h2, h3, h4⟩ := next_some h0
    rw [List.length_map] at h2
    rw [cAt_map h2] at h3 h4
    have h1' := h1
    unfold nextC at h1
    rw [List.findIdx?_eq_some_iff_getElem] at h1
    obtain ⟨_, _, h5⟩ := h1
    have eh : ∀ c, hmOf p home c = home := fun c => by unfold hmOf; rw [if_neg hp]
    refine ⟨i, h2, ?_, ?_, fun j hj hjc => ?_, .inr ⟨by simp, ?_, ?_⟩⟩
    · rw [← jn_jc hside (ha _ (List.getElem_mem h2))]; exact h3
    · rw [psC_gt hc hk hsum (List.getElem_mem h2), eh]; exact h4
    · have h6 := h5 j hj
      have hjl : j < cs.length := by omega
      rw [List.getElem_map, jn_jc hside (ha _ (List.getElem_mem hjl)), hjc] at h6
      rw [psC_gt hc hk hsum (List.getElem_mem hjl), eh]
      have h7 : gt0 (sum + (ctC cs[j]).n) (ib (cs.map ctC) k (ctC cs[j]).b (home + 1).toNat) = false := by simpa using h6
      exact h7
    · rw [eh, ← hg]
      conv => rhs; unfold gr
      rw [h1']
      simp only
      rw [cAt_map h2, List.append_assoc]
      rfl
    · rw [eh]; exact h4
theorem nxt_done {cs : List Cn} {l s : Nat} {p : List Nat} {sum side home : Int} (h : Nxt cs l s 0 p sum side home) : p = lst (cs.map ctC) l s := by
  rcases h with ⟨_, h, _⟩ | ⟨_, h, _⟩
  · omega
  · rw [← h]; unfold gr; simp
/-- Of the positions that come, the first that passes is the one. -/
theorem first_pass {cs : List Cn} {side : Int} {ps : Cn → Bool} {t : Nat} (ht : t < cs.length) (h1 : jc side cs[t] = true) (h2 : ps cs[t] = true) (h3 : ∀ j (hj : j < t), jc side cs[j] = true → ps cs[j] = false) {pre : List (El cs side)} {x : El cs side} {q : Nat} (hx : ixs (pre ++ [x]) = flt cs side q) (hn : ∀ y ∈ pre, ps cs[y.1] = false) (hp : ps cs[x.1] = true) : x.1.val = t := by
  have hxq : x.1.val ∈ flt cs side q := by rw [← hx]; unfold ixs; simp
  unfold flt at hxq
  rw [List.mem_filter, List.mem_range] at hxq
  by_cases e1 : x.1.val < t
  · have h := h3 x.1.val e1 x.2
    have hp' : ps cs[x.1.val] = true := hp
    rw [h] at hp'
    cases hp'
  · by_cases e2 : t < x.1.val
    · have htq : t ∈ flt cs side q := by
        unfold flt
        rw [List.mem_filter, List.mem_range]
        refine ⟨by omega, ?_⟩
        simp [List.getD, ht, h1]
      rw [← hx] at htq
      unfold ixs at htq
      rw [List.map_append, List.mem_append] at htq
      rcases htq with htq | htq
      · obtain ⟨y, hy, e⟩ := List.mem_map.1 htq
        have h := hn y hy
        have e : y.1.val = t := e
        have h' : ps cs[y.1.val] = false := h
        simp only [e] at h'
        rw [h2] at h'
        cases h'
      · simp at htq; omega
    · omega
theorem none_pass {cs : List Cn} {side : Int} {ps : Cn → Bool} {t : Nat} (ht : t < cs.length) (h1 : jc side cs[t] = true) (h2 : ps cs[t] = true) {ys : List (El cs side)} (hy : ixs ys = flt cs side cs.length) (hn : ∀ y ∈ ys, ps cs[y.1] = false) : False := by
  have htq : t ∈ flt cs side cs.length := by
    unfold flt
    rw [List.mem_filter, List.mem_range]
    refine ⟨ht, ?_⟩
    simp [List.getD, ht, h1]
  rw [← hy] at htq
  unfold ixs at htq
  obtain ⟨y, hy, e⟩ := List.mem_map.1 htq
  have h := hn y hy
  have e : y.1.val = t := e
  have h' : ps cs[y.1.val] = false := h
  simp only [e] at h'
  rw [h2] at h'
  cases h'
end Go.Proofs.Yteedainidoldoaa
