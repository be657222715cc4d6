/- Constraints and numbers, plain: what raising gives, and why it ends where some numbers meet the constraints. No program is walked here. -/
namespace Go.Proofs.Yteedainidoldoaa

/-- A constraint between sides: number 0 is the side of 0, the unknowns are 1 to n. -/
structure Ct where
  a : Nat
  n : Int
  b : Nat
def met (f : Nat → Int) (c : Ct) : Prop := f c.a + c.n ≤ f c.b
instance (f : Nat → Int) (c : Ct) : Decidable (met f c) := inferInstanceAs (Decidable (_ ≤ _))
/-- Numbers that meet all constraints. -/
structure Sol (n : Nat) (cs : List Ct) (x : Nat → Int) : Prop where
  zero : x 0 = 0
  pos : ∀ j, j ≤ n → 0 ≤ x j
  all : ∀ c ∈ cs, met x c
def upN (f : Nat → Int) (j : Nat) (v : Int) : Nat → Int := fun i => if i = j then v else f i
theorem upN_same (f : Nat → Int) (j : Nat) (v : Int) : upN f j v j = v := by simp [upN]
theorem upN_ne (f : Nat → Int) {i j : Nat} (v : Int) (h : i ≠ j) : upN f j v i = f i := by simp [upN, h]
/-- What a walk along constraints brings a side to, each side on it being at least there. -/
inductive Wk (cs : List Ct) (f : Nat → Int) : Nat → List Nat → Int → Prop
  | start (j : Nat) (h : 0 ≤ f j) : Wk cs f j [] 0
  | step (c : Ct) (l : List Nat) (v : Int) (hc : c ∈ cs) (h : Wk cs f c.a l v) (hb : v + c.n ≤ f c.b) : Wk cs f c.b (c.a :: l) (v + c.n)
theorem Wk.up {cs : List Ct} {f g : Nat → Int} {j : Nat} {l : List Nat} {v : Int} (h : Wk cs f j l v) (hg : ∀ i, f i ≤ g i) : Wk cs g j l v := by
  induction h with
  | start j h => exact .start j (Int.le_trans h (hg j))
  | step c l v hc _ hb ih => exact .step c l v hc ih (Int.le_trans hb (hg _))
theorem Wk.at {n : Nat} {cs : List Ct} {f x : Nat → Int} (hx : Sol n cs x) {j : Nat} {l : List Nat} {v : Int} (h : Wk cs f j l v) : ∀ i ∈ j :: l, ∃ p, p ≤ f i ∧ x i + (v - p) ≤ x j := by
  induction h with
  | start j h => intro i hi; simp at hi; subst hi; exact ⟨0, h, by omega⟩
  | step c l v hc h hb ih =>
    intro i hi
    have hm : x c.a + c.n ≤ x c.b := hx.all c hc
    rcases List.mem_cons.1 hi with rfl | hi
    · exact ⟨v + c.n, hb, by omega⟩
    · obtain ⟨p, h1, h2⟩ := ih i hi
      exact ⟨p, h1, by omega⟩
/-- What is known of numbers that were raised: each is what some walk brings, no side twice on it, and at least so many constraints long. -/
structure Rs (n : Nat) (cs : List Ct) (f : Nat → Int) (ρ : Nat → Nat) : Prop where
  zero : f 0 = 0
  wk : ∀ j, j ≤ n → ∃ l, Wk cs f j l (f j) ∧ (j :: l).Nodup ∧ (∀ i ∈ j :: l, i ≤ n) ∧ ρ j ≤ l.length
def Okc (n : Nat) (cs : List Ct) : Prop := ∀ c ∈ cs, c.a ≤ n ∧ c.b ≤ n
theorem rs_start (n : Nat) (cs : List Ct) : Rs n cs (fun _ => 0) (fun _ => 0) :=
  ⟨rfl, fun j hj => ⟨[], .start j (Int.le_refl 0), by simp, fun i hi => by simp at hi; omega, Nat.zero_le _⟩⟩
theorem Rs.below {n : Nat} {cs : List Ct} {f x : Nat → Int} {ρ : Nat → Nat} (h : Rs n cs f ρ) (hx : Sol n cs x) (j : Nat) (hj : j ≤ n) : f j ≤ x j := by
  obtain ⟨l, hw, _, hi, _⟩ := h.wk j hj
  have hw2 : ∀ {j : Nat} {l : List Nat} {v : Int}, Wk cs f j l v → (∀ i ∈ j :: l, i ≤ n) → v ≤ x j := by
    intro j l v hw
    induction hw with
    | start j _ => intro hi; exact hx.pos j (hi j (by simp))
    | step c l v hc _ _ ih =>
      intro hi
      have h1 := ih (fun i h => hi i (List.mem_cons_of_mem _ h))
      have h2 : x c.a + c.n ≤ x c.b := hx.all c hc
      omega
  exact hw2 hw hi
theorem nodup_but (a : Nat) : ∀ l : List Nat, l.Nodup → l.length ≤ (l.filter (fun i => decide (i ≠ a))).length + 1
  | [], _ => by simp
  | x :: l, h => by
    obtain ⟨h1, h2⟩ := List.nodup_cons.1 h
    by_cases e : x = a
    · subst e
      rw [List.filter_cons, if_neg (by simp)]
      have e2 : l.filter (fun i => decide (i ≠ x)) = l := List.filter_eq_self.2 (fun i hi => by
        have : i ≠ x := fun e => h1 (e ▸ hi)
        simpa using this)
      rw [e2]
      simp
    · rw [List.filter_cons, if_pos (by simpa using e)]
      have := nodup_but a l h2
      simp only [List.length_cons]
      omega
theorem nodup_le : ∀ (n : Nat) (l : List Nat), l.Nodup → (∀ i ∈ l, i ≤ n) → l.length ≤ n + 1
  | 0, l, h, hi => by
    have h1 := nodup_but 0 l h
    have e : l.filter (fun i => decide (i ≠ 0)) = [] := List.filter_eq_nil_iff.2 (fun i h => by have := hi i h; simp; omega)
    rw [e] at h1
    simpa using h1
  | n + 1, l, h, hi => by
    have h1 := nodup_but (n + 1) l h
    have h2 := nodup_le n (l.filter (fun i => decide (i ≠ n + 1))) (h.filter _) (fun i h => by
      obtain ⟨h3, h4⟩ := List.mem_filter.1 h
      have h5 := hi i h3
      have h6 : i ≠ n + 1 := by simpa using h4
      omega)
    omega
def upR (ρ : Nat → Nat) (j r : Nat) : Nat → Nat := fun i => if i = j then r else ρ i
theorem upR_same (ρ : Nat → Nat) (j r : Nat) : upR ρ j r j = r := by simp [upR]
theorem upR_ne (ρ : Nat → Nat) {i j : Nat} (r : Nat) (h : i ≠ j) : upR ρ j r i = ρ i := by simp [upR, h]
/-- A constraint that is not met raises an unknown, and its walk has room. -/
theorem Rs.raise {n : Nat} {cs : List Ct} {f x : Nat → Int} {ρ : Nat → Nat} (h : Rs n cs f ρ) (hx : Sol n cs x) (ho : Okc n cs) {c : Ct} (hc : c ∈ cs) (hm : ¬ met f c) (r : Nat) (hr : r ≤ ρ c.a + 1) :
    c.b ≠ 0 ∧ ρ c.a < n ∧ Rs n cs (upN f c.b (f c.a + c.n)) (upR ρ c.b r) := by
  have hmx : x c.a + c.n ≤ x c.b := hx.all c hc
  obtain ⟨oa, ob⟩ := ho c hc
  have hlt : f c.b < f c.a + c.n := by unfold met at hm; omega
  have hb0 : c.b ≠ 0 := fun e => by
    have h1 := h.below hx c.a oa
    have h2 := h.zero
    have h3 := hx.zero
    rw [e] at hmx hlt
    omega
  obtain ⟨l, hw, hnd, hi, hl⟩ := h.wk c.a oa
  have hnb : c.b ∉ c.a :: l := fun hmem => by
    obtain ⟨p, h1, h2⟩ := hw.at hx c.b hmem
    omega
  have hg : ∀ i, f i ≤ upN f c.b (f c.a + c.n) i := fun i => by
    by_cases e : i = c.b
    · subst e; rw [upN_same]; omega
    · rw [upN_ne f _ e]; exact Int.le_refl _
  have hnd2 : (c.b :: c.a :: l).Nodup := List.nodup_cons.2 ⟨hnb, hnd⟩
  have hi2 : ∀ i ∈ c.b :: c.a :: l, i ≤ n := fun i hm => by
    rcases List.mem_cons.1 hm with rfl | hm
    · exact ob
    · exact hi i hm
  have hlen := nodup_le n _ hnd2 hi2
  simp only [List.length_cons] at hlen
  refine ⟨hb0, by omega, ?_, fun j hj => ?_⟩
  · rw [upN_ne f _ (Ne.symm hb0)]; exact h.zero
  · by_cases e : j = c.b
    · subst e
      rw [upN_same, upR_same]
      exact ⟨c.a :: l, .step c l _ hc (hw.up hg) (by rw [upN_same]; exact Int.le_refl _), hnd2, hi2, by simp only [List.length_cons]; omega⟩
    · rw [upN_ne f _ e, upR_ne ρ _ e]
      obtain ⟨l2, h1, h2, h3, h4⟩ := h.wk j hj
      exact ⟨l2, h1.up hg, h2, h3, h4⟩
theorem Rs.weak {n : Nat} {cs : List Ct} {f : Nat → Int} {ρ ρ' : Nat → Nat} (h : Rs n cs f ρ) (hr : ∀ j, ρ' j ≤ ρ j) : Rs n cs f ρ' := ⟨h.zero, fun j hj => by
  obtain ⟨l, h1, h2, h3, h4⟩ := h.wk j hj
  exact ⟨l, h1, h2, h3, Nat.le_trans (hr j) h4⟩⟩
/-- One constraint of a round. -/
def rStep (f : Nat → Int) (c : Ct) : Nat → Int := if c.b ≠ 0 ∧ f c.b < f c.a + c.n then upN f c.b (f c.a + c.n) else f
def rRound (cs : List Ct) (f : Nat → Int) : Nat → Int := cs.foldl rStep f
def rRounds (cs : List Ct) : Nat → (Nat → Int)
  | 0 => fun _ => 0
  | k + 1 => rRound cs (rRounds cs k)
theorem met_up {f : Nat → Int} {c c' : Ct} {v : Int} (h : met f c') (hv : f c.b ≤ v) (ha : c'.a ≠ c.b) : met (upN f c.b v) c' := by
  unfold met at *
  rw [upN_ne f v ha]
  by_cases e : c'.b = c.b
  · rw [e, upN_same]; rw [e] at h; omega
  · rw [upN_ne f v e]; exact h
theorem round_in {n : Nat} {cs : List Ct} {x : Nat → Int} (hx : Sol n cs x) (ho : Okc n cs) (r : Nat) : ∀ (rest pre : List Ct) (f : Nat → Int) (ρ : Nat → Nat), (∀ c ∈ rest, c ∈ cs) → Rs n cs f ρ → (∀ c ∈ rest, met f c ∨ r ≤ ρ c.a) → (∀ c ∈ pre, met f c ∨ r + 1 ≤ ρ c.a) →
    ∃ ρ', Rs n cs (rest.foldl rStep f) ρ' ∧ ∀ c, c ∈ pre ∨ c ∈ rest → met (rest.foldl rStep f) c ∨ r + 1 ≤ ρ' c.a
  | [], pre, f, ρ, _, h, _, hp => ⟨ρ, h, fun c hc => by rcases hc with hc | hc; exact hp c hc; cases hc⟩
  | c :: rest, pre, f, ρ, hsub, h, hr, hp => by
    rw [List.foldl_cons]
    have hcc := hsub c (List.mem_cons_self ..)
    by_cases hm : met f c
    · have e : rStep f c = f := by unfold rStep; rw [if_neg]; unfold met at hm; omega
      rw [e]
      obtain ⟨ρ', h1, h2⟩ := round_in hx ho r rest (c :: pre) f ρ (fun c hc => hsub c (List.mem_cons_of_mem _ hc)) h (fun c hc => hr c (List.mem_cons_of_mem _ hc)) (fun c' hc' => by
        rcases List.mem_cons.1 hc' with rfl | hc'
        · exact .inl hm
        · exact hp c' hc')
      refine ⟨ρ', h1, fun c' hc' => h2 c' ?_⟩
      rcases hc' with hc' | hc'
      · exact .inl (List.mem_cons_of_mem _ hc')
      · rcases List.mem_cons.1 hc' with rfl | hc'
        · exact .inl (List.mem_cons_self ..)
        · exact .inr hc'
    · have hra : r ≤ ρ c.a := (hr c (List.mem_cons_self ..)).resolve_left hm
      obtain ⟨hb0, _, hR⟩ := h.raise hx ho hcc hm (ρ c.a + 1) (Nat.le_refl _)
      have hlt : f c.b < f c.a + c.n := by unfold met at hm; omega
      have e : rStep f c = upN f c.b (f c.a + c.n) := by unfold rStep; rw [if_pos ⟨hb0, hlt⟩]
      rw [e]
      have keep : ∀ (k : Nat) (c' : Ct), k ≤ r + 1 → (met f c' ∨ k ≤ ρ c'.a) → met (upN f c.b (f c.a + c.n)) c' ∨ k ≤ upR ρ c.b (ρ c.a + 1) c'.a := fun k c' hk hc' => by
        by_cases ea : c'.a = c.b
        · right; rw [ea, upR_same]; omega
        · rcases hc' with hc' | hc'
          · exact .inl (met_up hc' (by omega) ea)
          · right; rw [upR_ne ρ _ ea]; exact hc'
      obtain ⟨ρ', h1, h2⟩ := round_in hx ho r rest (c :: pre) _ _ (fun c hc => hsub c (List.mem_cons_of_mem _ hc)) hR (fun c' hc' => keep r c' (by omega) (hr c' (List.mem_cons_of_mem _ hc'))) (fun c' hc' => by
        rcases List.mem_cons.1 hc' with rfl | hc'
        · by_cases ea : c'.a = c'.b
          · right; rw [ea, upR_same]; rw [← ea]; omega
          · left; unfold met; rw [upN_ne f _ ea, upN_same]; exact Int.le_refl _
        · exact keep (r + 1) c' (Nat.le_refl _) (hp c' hc'))
      refine ⟨ρ', h1, fun c' hc' => h2 c' ?_⟩
      rcases hc' with hc' | hc'
      · exact .inl (List.mem_cons_of_mem _ hc')
      · rcases List.mem_cons.1 hc' with rfl | hc'
        · exact .inl (List.mem_cons_self ..)
        · exact .inr hc'
theorem rounds_in {n : Nat} {cs : List Ct} {x : Nat → Int} (hx : Sol n cs x) (ho : Okc n cs) : ∀ k, ∃ ρ, Rs n cs (rRounds cs k) ρ ∧ ∀ c ∈ cs, met (rRounds cs k) c ∨ k ≤ ρ c.a
  | 0 => ⟨fun _ => 0, rs_start n cs, fun c _ => .inr (Nat.zero_le _)⟩
  | k + 1 => by
    obtain ⟨ρ, h1, h2⟩ := rounds_in hx ho k
    obtain ⟨ρ', h3, h4⟩ := round_in hx ho k cs [] (rRounds cs k) ρ (fun c h => h) h1 h2 (fun c h => by cases h)
    exact ⟨ρ', h3, fun c hc => h4 c (.inr hc)⟩
/-- Where some numbers meet the constraints, n rounds and more bring the least ones. -/
theorem rounds_meet {n : Nat} {cs : List Ct} {x : Nat → Int} (hx : Sol n cs x) (ho : Okc n cs) {k : Nat} (hk : n ≤ k) : (∀ c ∈ cs, met (rRounds cs k) c) ∧ rRounds cs k 0 = 0 ∧ ∀ j, j ≤ n → rRounds cs k j ≤ x j := by
  obtain ⟨ρ, h1, h2⟩ := rounds_in hx ho k
  refine ⟨fun c hc => ?_, h1.zero, fun j hj => h1.below hx j hj⟩
  rcases h2 c hc with h | h
  · exact h
  · refine Classical.byContradiction (fun hm => ?_)
    have := (h1.raise hx ho hc hm 0 (Nat.zero_le _)).2.1
    omega
/-- Rounds never lower a number. -/
theorem step_up (f : Nat → Int) (c : Ct) (i : Nat) : f i ≤ rStep f c i := by
  unfold rStep
  split
  · rename_i h
    by_cases e : i = c.b
    · subst e; rw [upN_same]; omega
    · rw [upN_ne f _ e]; exact Int.le_refl _
  · exact Int.le_refl _
theorem round_up (cs : List Ct) : ∀ (f : Nat → Int) (i : Nat), f i ≤ rRound cs f i := by
  induction cs with
  | nil => intro f i; exact Int.le_refl _
  | cons c cs ih => intro f i; exact Int.le_trans (step_up f c i) (ih _ i)
theorem rounds_pos (cs : List Ct) : ∀ k i, 0 ≤ rRounds cs k i
  | 0, _ => Int.le_refl 0
  | k + 1, i => Int.le_trans (rounds_pos cs k i) (round_up cs _ i)
/-- Two lots of least numbers are one. -/
theorem least_one {n : Nat} {cs : List Ct} {f g : Nat → Int} (hf : Sol n cs f) (hg : Sol n cs g) (hfl : ∀ x, Sol n cs x → ∀ j, j ≤ n → f j ≤ x j) (hgl : ∀ x, Sol n cs x → ∀ j, j ≤ n → g j ≤ x j) : ∀ j, j ≤ n → f j = g j := fun j hj =>
  Int.le_antisymm (hfl g hg j hj) (hgl f hf j hj)
end Go.Proofs.Yteedainidoldoaa
