/- Raising numbers with a heap of raised sides, plain: what holds between two rounds, and what it comes to. No program is walked here. -/
import Derived.Test.YteedainidoldoaaSvA
import Derived.Test.YteedainidoldoaaSvK
namespace Go.Proofs.Yteedainidoldoaa

/-- Between two sides that are taken off the heap. -/
structure LN (n : Nat) (cs : List Ct) (f : Nat → Int) (M : Rp → Prop) (T : Int) : Prop where
  zero : f 0 = 0
  pos : ∀ j, 0 ≤ f j
  rs : ∀ x, Sol n cs x → ∃ ρ, Rs n cs f ρ ∧ ∀ p, M p → p.1 ≤ ρ (p.2 + 1).toNat
  met : ∀ c ∈ cs, met f c ∨ ∃ r, M (r, (c.a : Int) - 1)
  rng : ∀ p, M p → 0 ≤ p.1 ∧ p.1 ≤ n ∧ -1 ≤ p.2 ∧ p.2 < n
  near : ∀ p q, M p → M q → p.1 ≤ q.1 + 1
  key : ∀ p, M p → T ≤ p.1 * 32 + p.2 + 1
  top : ∀ j, f j ≤ 100000 * T
/-- Behind i constraints, looked at for the side s that was taken off. -/
structure LI (n : Nat) (cs : List Ct) (f : Nat → Int) (M : Rp → Prop) (T r s : Int) (i : Nat) : Prop where
  zero : f 0 = 0
  pos : ∀ j, 0 ≤ f j
  rs : ∀ x, Sol n cs x → ∃ ρ, Rs n cs f ρ ∧ (∀ p, M p → p.1 ≤ ρ (p.2 + 1).toNat) ∧ r ≤ ρ (s + 1).toNat
  met : ∀ k (h : k < cs.length), met f cs[k] ∨ (∃ r, M (r, (cs[k].a : Int) - 1)) ∨ (i ≤ k ∧ (cs[k].a : Int) = s + 1)
  rng : ∀ p, M p → 0 ≤ p.1 ∧ p.1 ≤ n ∧ -1 ≤ p.2 ∧ p.2 < n
  near : ∀ p, M p → r ≤ p.1 ∧ p.1 ≤ r + 1
  key : ∀ p, M p → r * 32 + s + 2 ≤ p.1 * 32 + p.2 + 1
  top : ∀ j, f j ≤ 100000 * T + 1000 * i
  own : 0 ≤ r ∧ r ≤ n ∧ -1 ≤ s ∧ s < n
  low : T ≤ r * 32 + s + 1
theorem LN.start (n : Nat) (cs : List Ct) (ho : Okc n cs) : LN n cs (fun _ => 0) (fun p => p.1 = 0 ∧ -1 ≤ p.2 ∧ p.2 < n) 0 :=
  ⟨rfl, fun _ => Int.le_refl 0, fun _ _ => ⟨fun _ => 0, rs_start n cs, fun p hp => by rw [hp.1]; exact Int.le_refl 0⟩,
    fun c hc => .inr ⟨0, rfl, by simp only; omega, by have := (ho c hc).1; simp only; omega⟩,
    fun p hp => ⟨by omega, by omega, hp.2.1, hp.2.2⟩, fun p q hp hq => by omega, fun p hp => by omega, fun _ => by omega⟩
theorem LN.pop {n : Nat} {cs : List Ct} {f : Nat → Int} {M : Rp → Prop} {T : Int} (h : LN n cs f M T) (hn : n ≤ 30) {p : Rp} (hp : M p) (hl : ∀ x, M x → leP p x) : LI n cs f (fun x => M x ∧ x.2 ≠ p.2) T p.1 p.2 0 := by
  obtain ⟨a1, a2, a3, a4⟩ := h.rng p hp
  refine ⟨h.zero, h.pos, fun x hx => ?_, fun k hk => ?_, fun q hq => h.rng q hq.1, fun q hq => ⟨leP_fst (hl q hq.1), h.near q p hq.1 hp⟩, fun q hq => ?_, fun j => ?_, ⟨a1, a2, a3, a4⟩, h.key p hp⟩
  · obtain ⟨ρ, h1, h2⟩ := h.rs x hx
    exact ⟨ρ, h1, fun q hq => h2 q hq.1, h2 p hp⟩
  · rcases h.met cs[k] (List.getElem_mem hk) with h1 | ⟨r, h1⟩
    · exact .inl h1
    · by_cases e : (cs[k].a : Int) - 1 = p.2
      · exact .inr (.inr ⟨Nat.zero_le _, by omega⟩)
      · exact .inr (.inl ⟨r, h1, e⟩)
  · obtain ⟨b1, b2, b3, b4⟩ := h.rng q hq.1
    have h1 := hl q hq.1
    have h2 := hq.2
    unfold leP at h1
    omega
  · have := h.top j
    show f j ≤ 100000 * T + 1000 * ((0 : Nat) : Int)
    omega
theorem LI.skip {n : Nat} {cs : List Ct} {f : Nat → Int} {M : Rp → Prop} {T r s : Int} {i : Nat} (h : LI n cs f M T r s i) (hi : i < cs.length) (hs : (cs[i].a : Int) ≠ s + 1 ∨ Go.Proofs.Yteedainidoldoaa.met f cs[i]) : LI n cs f M T r s (i + 1) :=
  ⟨h.zero, h.pos, h.rs, fun k hk => by
    rcases h.met k hk with h1 | h1 | ⟨h1, h2⟩
    · exact .inl h1
    · exact .inr (.inl h1)
    · by_cases e : k = i
      · subst e
        rcases hs with hs | hs
        · exact absurd h2 hs
        · exact .inl hs
      · exact .inr (.inr ⟨by omega, h2⟩), h.rng, h.near, h.key, fun j => by have := h.top j; omega, h.own, h.low⟩
theorem LI.fail {n : Nat} {cs : List Ct} {f : Nat → Int} {M : Rp → Prop} {T r s : Int} {i : Nat} (h : LI n cs f M T r s i) (ho : Okc n cs) (hi : i < cs.length) (hs : (cs[i].a : Int) = s + 1) (hm : ¬ Go.Proofs.Yteedainidoldoaa.met f cs[i]) (hb : cs[i].b = 0 ∨ r = n) : ¬ ∃ x, Sol n cs x := by
  rintro ⟨x, hx⟩
  obtain ⟨ρ, h1, _, h3⟩ := h.rs x hx
  obtain ⟨g1, g2, _⟩ := h1.raise hx ho (List.getElem_mem hi) hm 0 (Nat.zero_le _)
  have e : (s + 1).toNat = cs[i].a := by omega
  rw [e] at h3
  rcases hb with hb | hb
  · exact g1 hb
  · omega
theorem LI.raise {n : Nat} {cs : List Ct} {f : Nat → Int} {M : Rp → Prop} {T r s : Int} {i : Nat} (h : LI n cs f M T r s i) (hn : n ≤ 30) (ho : Okc n cs) (hN : ∀ c ∈ cs, c.n ≤ 1000) (hi : i < cs.length) (hs : (cs[i].a : Int) = s + 1) (hm : ¬ Go.Proofs.Yteedainidoldoaa.met f cs[i]) (hb : cs[i].b ≠ 0) (hr : r ≠ n) :
    LI n cs (upN f cs[i].b (f cs[i].a + cs[i].n)) (fun p => M p ∨ (p = (r + 1, (cs[i].b : Int) - 1) ∧ ¬ ∃ r', M (r', (cs[i].b : Int) - 1))) T r s (i + 1) := by
  have hlt : f cs[i].b < f cs[i].a + cs[i].n := by unfold Go.Proofs.Yteedainidoldoaa.met at hm; omega
  obtain ⟨oa, ob⟩ := ho _ (List.getElem_mem hi)
  have hn1 := hN _ (List.getElem_mem hi)
  obtain ⟨c1, c2, c3, c4⟩ := h.own
  have hin : ∃ r', M (r', (cs[i].b : Int) - 1) ∨ ((r', (cs[i].b : Int) - 1) = (r + 1, (cs[i].b : Int) - 1) ∧ ¬ ∃ r', M (r', (cs[i].b : Int) - 1)) := by
    by_cases e : ∃ r', M (r', (cs[i].b : Int) - 1)
    · obtain ⟨r', hr'⟩ := e
      exact ⟨r', .inl hr'⟩
    · exact ⟨r + 1, .inr ⟨rfl, e⟩⟩
  refine ⟨?_, fun j => ?_, fun x hx => ?_, fun k hk => ?_, fun p hp => ?_, fun p hp => ?_, fun p hp => ?_, fun j => ?_, h.own, h.low⟩
  · rw [upN_ne f _ (Ne.symm hb)]; exact h.zero
  · by_cases e : j = cs[i].b
    · subst e; rw [upN_same]; have := h.pos cs[i].b; omega
    · rw [upN_ne f _ e]; exact h.pos j
  · obtain ⟨ρ, h1, h2, h3⟩ := h.rs x hx
    have e : (s + 1).toNat = cs[i].a := by omega
    rw [e] at h3
    obtain ⟨_, _, g3⟩ := h1.raise hx ho (List.getElem_mem hi) hm (ρ cs[i].a + 1) (Nat.le_refl _)
    refine ⟨_, g3, fun p hp => ?_, ?_⟩
    · rcases hp with hp | ⟨rfl, _⟩
      · by_cases e2 : (p.2 + 1).toNat = cs[i].b
        · rw [e2, upR_same]
          have := (h.near p hp).2
          omega
        · rw [upR_ne ρ _ e2]; exact h2 p hp
      · have e2 : ((cs[i].b : Int) - 1 + 1).toNat = cs[i].b := by omega
        simp only
        rw [e2, upR_same]
        omega
    · rw [e]
      by_cases e2 : cs[i].a = cs[i].b
      · rw [e2, upR_same, ← e2]; omega
      · rw [upR_ne ρ _ e2]; exact h3
  · by_cases ea : cs[k].a = cs[i].b
    · obtain ⟨r', hr'⟩ := hin
      exact .inr (.inl ⟨r', by rw [ea]; exact hr'⟩)
    · rcases h.met k hk with h1 | ⟨r', h1⟩ | ⟨h1, h2⟩
      · exact .inl (met_up h1 (by omega) ea)
      · exact .inr (.inl ⟨r', .inl h1⟩)
      · by_cases e : k = i
        · subst e
          left
          unfold Go.Proofs.Yteedainidoldoaa.met
          rw [upN_ne f _ ea, upN_same]
          exact Int.le_refl _
        · exact .inr (.inr ⟨by omega, h2⟩)
  · rcases hp with hp | ⟨rfl, _⟩
    · exact h.rng p hp
    · exact ⟨by simp only; omega, by simp only; omega, by simp only; omega, by simp only; omega⟩
  · rcases hp with hp | ⟨rfl, _⟩
    · exact h.near p hp
    · exact ⟨by simp only; omega, Int.le_refl _⟩
  · rcases hp with hp | ⟨rfl, _⟩
    · exact h.key p hp
    · simp only
      omega
  · by_cases e : j = cs[i].b
    · subst e; rw [upN_same]; have := h.top cs[i].a; omega
    · rw [upN_ne f _ e]; have := h.top j; omega
theorem LI.done {n : Nat} {cs : List Ct} {f : Nat → Int} {M : Rp → Prop} {T r s : Int} (h : LI n cs f M T r s cs.length) (hl : cs.length ≤ 100) : LN n cs f M (r * 32 + s + 2) :=
  ⟨h.zero, h.pos, fun x hx => by
    obtain ⟨ρ, h1, h2, _⟩ := h.rs x hx
    exact ⟨ρ, h1, h2⟩, fun c hc => by
    obtain ⟨k, hk, rfl⟩ := List.getElem_of_mem hc
    rcases h.met k hk with h1 | h1 | ⟨h1, _⟩
    · exact .inl h1
    · exact .inr h1
    · omega, h.rng, fun p q hp hq => by have := h.near p hp; have := h.near q hq; omega, h.key, fun j => by
    have := h.top j
    have := h.low
    omega⟩
theorem LN.fin {n : Nat} {cs : List Ct} {f : Nat → Int} {M : Rp → Prop} {T : Int} (h : LN n cs f M T) (hM : ∀ p, ¬ M p) : Sol n cs f ∧ ∀ x, Sol n cs x → ∀ j, j ≤ n → f j ≤ x j :=
  ⟨⟨h.zero, fun j _ => h.pos j, fun c hc => (h.met c hc).resolve_right (fun ⟨r, hr⟩ => hM _ hr)⟩, fun x hx j hj => by
    obtain ⟨ρ, h1, _⟩ := h.rs x hx
    exact h1.below hx j hj⟩
end Go.Proofs.Yteedainidoldoaa
