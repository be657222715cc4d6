/- What the laws of the least numbers and of the cycle ask of Solve's answer. No program is walked here. -/
import Derived.Test.YteedainidoldoaaSxA
namespace Go.Proofs.Yteedainidoldoaa

theorem fold_in : ∀ (cs : List Cn) (ks : List Int) (M : Int), In0 M ks → 0 ≤ M → (∀ c ∈ cs, c.n ≤ 1000) → In0 (M + 1000 * (cs.length : Int)) (cs.foldl stepV ks)
  | [], ks, M, h, _, _ => by simpa using h
  | c :: cs, ks, M, h, hM, hc => by
    rw [List.foldl_cons]
    have h1 := fold_in cs _ _ (stepV_in h hM (hc c (List.mem_cons_self ..))) (by omega) (fun d hd => hc d (List.mem_cons_of_mem _ hd))
    intro k hk
    have h2 := h1 k hk
    simp only [List.length_cons]
    omega
theorem rounds_small {cs : List Cn} (n : Nat) (hc : ∀ c ∈ cs, c.n ≤ 1000) (hl : cs.length ≤ 100) : ∀ k : Nat, In0 (100000 * (k : Int)) (roundsV cs n k)
  | 0 => by
    intro k hk
    unfold roundsV at hk
    have := (List.mem_replicate.1 hk).2
    omega
  | k + 1 => by
    have h1 := fold_in cs _ _ (rounds_small n hc hl k) (by omega) hc
    intro j hj
    have h2 := h1 j hj
    omega
theorem cn_small {n : Int} {cs : List Cn} (hok : consB n cs = true) : ∀ c ∈ cs, c.n ≤ 1000 := by
  intro c hc
  obtain ⟨q, hq, rfl⟩ := List.getElem_of_mem hc
  obtain ⟨s1, s2, s3, s4, s5, s6⟩ := (consB_yes hok).2 q hq
  exact s6
/-- Where Solve says yes its numbers are the least ones. -/
theorem sol_true {n : Int} {cs : List Cn} {r1 r2 : List Int} (h : solS n cs = (r1, r2, true)) :
    consB n cs = true ∧ n = r1.length ∧ In0 4000000 r1 ∧ meetsB r1 cs = true ∧ r2 = [] ∧ ∀ ks : List Int, ks.length = r1.length → meetsB ks cs = true → ∀ j, j < r1.length → r1.getD j 0 ≤ ks.getD j 0 := by
  cases hok : consB n cs with
  | false => rw [solS_no hok] at h; simp at h
  | true =>
    have hn := (consB_yes hok).1
    obtain ⟨m, rfl⟩ : ∃ m : Nat, n = m := ⟨n.toNat, by omega⟩
    have hr := roundsV_fn cs m (cn_rng hok) (m + 2)
    have hs := rounds_small m (cn_small hok) hn.2.2 (m + 2)
    unfold solS at h
    rw [if_neg (by rw [hok]; decide)] at h
    rw [show ((m : Int)).toNat = m from rfl] at h
    by_cases hm : meetsB (roundsV cs m (m + 2)) cs = true
    · rw [if_pos hm] at h
      simp only [Prod.mk.injEq, and_true] at h
      obtain ⟨rfl, rfl⟩ := h
      refine ⟨rfl, by rw [hr.2], fun k hk => ?_, hm, rfl, fun ks hl hks j hj => ?_⟩
      · have := hs k hk
        omega
      · have hl : ks.length = m := by rw [hl, hr.2]
        have hx := (meetsB_sol hl hok).1 hks
        have hle := (rounds_meet hx (okc_ct hok) (show m ≤ m + 2 by omega)).2.2 (j + 1) (by rw [hr.2] at hj; omega)
        rw [← hr.1] at hle
        unfold fnV at hle
        simpa using hle
    · rw [if_neg hm] at h
      simp at h
theorem sol_nil {n : Int} {cs : List Cn} {r1 r2 : List Int} {b : Bool} (h : solS n cs = (r1, r2, b)) (hb : b = true ∨ consB n cs = false) : r2 = [] := by
  rcases hb with rfl | hb
  · exact (sol_true h).2.2.2.2.1
  · rw [solS_no hb] at h
    simp only [Prod.mk.injEq] at h
    exact h.2.1.symm
/-- Where Solve says no, at valid constraints, its list is a cycle and no numbers meet them. -/
theorem sol_false {n : Int} {cs : List Cn} {r1 r2 : List Int} (h : solS n cs = (r1, r2, false)) (hok : consB n cs = true) :
    cycB n cs r2 = true ∧ ∀ ks : List Int, (ks.length : Int) = n → meetsB ks cs = false := by
  have hn := (consB_yes hok).1
  obtain ⟨m, rfl⟩ : ∃ m : Nat, n = m := ⟨n.toNat, by omega⟩
  have hno : ¬ ∃ x, Sol m (cs.map ctC) x := by
    rintro ⟨x, hx⟩
    obtain ⟨r1', r2'⟩ := roundsV_fn cs m (cn_rng hok) (m + 2)
    have key := rounds_meet hx (okc_ct hok) (show m ≤ m + 2 by omega)
    have hsr : Sol m (cs.map ctC) (fnV (roundsV cs m (m + 2))) := by
      rw [r1']
      exact ⟨key.2.1, fun j _ => rounds_pos _ _ _, key.1⟩
    unfold solS at h
    rw [if_neg (by rw [hok]; decide)] at h
    rw [show ((m : Int)).toNat = m from rfl] at h
    rw [if_pos ((meetsB_sol r2' hok).2 hsr)] at h
    simp at h
  have hs := sol_none hok hno
  rw [h] at hs
  simp only [Prod.mk.injEq, and_true] at hs
  obtain ⟨rfl, rfl⟩ := hs
  refine ⟨first_cyc hok hno, fun ks hl => ?_⟩
  cases hm : meetsB ks cs with
  | false => rfl
  | true => exact absurd ⟨_, (meetsB_sol (by omega) hok).1 hm⟩ hno
end Go.Proofs.Yteedainidoldoaa
