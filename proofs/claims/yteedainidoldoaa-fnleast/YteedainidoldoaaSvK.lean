/- A heap as a function of places, plain: what the two ways of putting it right again keep. No program is walked here. -/
namespace Go.Proofs.Yteedainidoldoaa

/-- A side that was raised: its round and its number. -/
abbrev Rp := Int × Int
def ltP (a b : Rp) : Bool := if a.1 != b.1 then decide (a.1 < b.1) else decide (a.2 < b.2)
theorem ltP_iff {a b : Rp} : ltP a b = true ↔ a.1 < b.1 ∨ (a.1 = b.1 ∧ a.2 < b.2) := by
  unfold ltP
  by_cases h : a.1 = b.1
  · simp [h]
  · simp [h]
def leP (a b : Rp) : Prop := b.1 > a.1 ∨ (b.1 = a.1 ∧ a.2 ≤ b.2)
theorem leP_not {a b : Rp} : ltP a b = false ↔ leP b a := by
  rw [Bool.eq_false_iff, Ne, ltP_iff]
  unfold leP
  omega
theorem leP_of {a b : Rp} (h : ltP a b = true) : leP a b := by rw [ltP_iff] at h; unfold leP; omega
theorem leP_refl (a : Rp) : leP a a := by unfold leP; omega
theorem leP_trans {a b c : Rp} (h : leP a b) (h2 : leP b c) : leP a c := by unfold leP at *; omega
theorem leP_fst {a b : Rp} (h : leP a b) : a.1 ≤ b.1 := by unfold leP at h; omega
def swF (f : Nat → Rp) (i j : Nat) : Nat → Rp := fun k => if k = i then f j else if k = j then f i else f k
theorem sw_i (f : Nat → Rp) (i j : Nat) : swF f i j i = f j := by simp [swF]
theorem sw_j (f : Nat → Rp) (i j : Nat) : swF f i j j = f i := by
  unfold swF
  by_cases h : j = i
  · rw [if_pos h, h]
  · rw [if_neg h, if_pos rfl]
theorem sw_ne (f : Nat → Rp) {i j k : Nat} (h1 : k ≠ i) (h2 : k ≠ j) : swF f i j k = f k := by simp [swF, h1, h2]
/-- Each one is at most what stands under it. -/
def HpF (n : Nat) (f : Nat → Rp) : Prop := ∀ k, 0 < k → k < n → leP (f ((k - 1) / 2)) (f k)
/-- So but for one place and what stands above it. -/
structure HpU (n : Nat) (f : Nat → Rp) (j : Nat) : Prop where
  all : ∀ k, 0 < k → k < n → k ≠ j → leP (f ((k - 1) / 2)) (f k)
  kid : ∀ k, 0 < k → k < n → (k - 1) / 2 = j → 0 < j → leP (f ((j - 1) / 2)) (f k)
theorem HpU.end {n : Nat} {f : Nat → Rp} {j : Nat} (h : HpU n f j) (he : j = 0 ∨ leP (f ((j - 1) / 2)) (f j)) : HpF n f := fun k h0 hk => by
  by_cases e : k = j
  · subst e
    rcases he with he | he
    · omega
    · exact he
  · exact h.all k h0 hk e
theorem HpU.step {n : Nat} {f : Nat → Rp} {j : Nat} (h : HpU n f j) (hj : 0 < j) (hn : j < n) (hl : leP (f j) (f ((j - 1) / 2))) : HpU n (swF f ((j - 1) / 2) j) ((j - 1) / 2) := by
  have hij : (j - 1) / 2 < j := by omega
  refine ⟨fun k h0 hk hne => ?_, fun k h0 hk hkp hi => ?_⟩
  · by_cases ek : k = j
    · subst ek
      rw [sw_i, sw_j]
      exact hl
    · rw [sw_ne f hne ek]
      by_cases ep : (k - 1) / 2 = (j - 1) / 2
      · rw [ep, sw_i]
        have h1 := h.all k h0 hk ek
        rw [ep] at h1
        exact leP_trans hl h1
      · by_cases ep2 : (k - 1) / 2 = j
        · rw [ep2, sw_j]
          exact h.kid k h0 hk ep2 hj
        · rw [sw_ne f ep ep2]
          exact h.all k h0 hk ek
  · have hpi : ((j - 1) / 2 - 1) / 2 ≠ (j - 1) / 2 := by omega
    have hpj : ((j - 1) / 2 - 1) / 2 ≠ j := by omega
    have h1 := h.all ((j - 1) / 2) hi (by omega) (by omega)
    rw [sw_ne f hpi hpj]
    by_cases ek : k = j
    · subst ek
      rw [sw_j]
      exact h1
    · have hki : k ≠ (j - 1) / 2 := by omega
      rw [sw_ne f hki ek]
      have h2 := h.all k h0 hk ek
      rw [hkp] at h2
      exact leP_trans h1 h2
/-- So but for one place and what stands under it. -/
structure HpD (n : Nat) (f : Nat → Rp) (i : Nat) : Prop where
  all : ∀ k, 0 < k → k < n → (k - 1) / 2 ≠ i → leP (f ((k - 1) / 2)) (f k)
  kid : ∀ k, 0 < k → k < n → (k - 1) / 2 = i → 0 < i → leP (f ((i - 1) / 2)) (f k)
theorem HpD.end {n : Nat} {f : Nat → Rp} {i : Nat} (h : HpD n f i) (he : ∀ k, 0 < k → k < n → (k - 1) / 2 = i → leP (f i) (f k)) : HpF n f := fun k h0 hk => by
  by_cases e : (k - 1) / 2 = i
  · rw [e]; exact he k h0 hk e
  · exact h.all k h0 hk e
/-- The lesser of the two under a place. -/
def lsK (f : Nat → Rp) (n i : Nat) : Nat := if 2 * i + 2 < n ∧ ltP (f (2 * i + 2)) (f (2 * i + 1)) = true then 2 * i + 2 else 2 * i + 1
theorem lsK_or (f : Nat → Rp) (n i : Nat) : lsK f n i = 2 * i + 2 ∧ 2 * i + 2 < n ∨ lsK f n i = 2 * i + 1 := by
  unfold lsK
  split
  · rename_i h; exact .inl ⟨rfl, h.1⟩
  · exact .inr rfl
theorem lsK_le (f : Nat → Rp) {n i k : Nat} (h0 : 0 < k) (hk : k < n) (hp : (k - 1) / 2 = i) : leP (f (lsK f n i)) (f k) := by
  unfold lsK
  have hkk : k = 2 * i + 1 ∨ k = 2 * i + 2 := by omega
  split
  · rename_i h
    rcases hkk with rfl | rfl
    · exact leP_of h.2
    · exact leP_refl _
  · rename_i h
    rcases hkk with rfl | rfl
    · exact leP_refl _
    · have : ltP (f (2 * i + 2)) (f (2 * i + 1)) = false := by
        cases e : ltP (f (2 * i + 2)) (f (2 * i + 1)) with
        | false => rfl
        | true => exact absurd ⟨hk, e⟩ h
      exact leP_not.1 this
theorem HpD.step {n : Nat} {f : Nat → Rp} {i : Nat} (h : HpD n f i) (hn : 2 * i + 1 < n) (hl : leP (f (lsK f n i)) (f i)) : HpD n (swF f i (lsK f n i)) (lsK f n i) := by
  have hj := lsK_or f n i
  have hle : ∀ k, 0 < k → k < n → (k - 1) / 2 = i → leP (f (lsK f n i)) (f k) := fun k => lsK_le f
  generalize lsK f n i = j at *
  have hji : i < j := by omega
  have hpj : (j - 1) / 2 = i := by omega
  have hjn : j < n := by omega
  refine ⟨fun k h0 hk hne => ?_, fun k h0 hk hkp hi => ?_⟩
  · by_cases ep : (k - 1) / 2 = i
    · rw [ep, sw_i]
      by_cases ek : k = j
      · subst ek; rw [sw_j]; exact hl
      · rw [sw_ne f (by omega) ek]
        exact hle k h0 hk ep
    · rw [sw_ne f ep hne]
      by_cases ek : k = i
      · subst ek
        rw [sw_i]
        exact h.kid j (by omega) hjn hpj (by omega)
      · by_cases ek2 : k = j
        · omega
        · rw [sw_ne f ek ek2]
          exact h.all k h0 hk ep
  · rw [hpj, sw_i]
    have hki : k ≠ i := by omega
    have hkj : k ≠ j := by omega
    rw [sw_ne f hki hkj]
    have h2 := h.all k h0 hk (by omega)
    rw [hkp] at h2
    exact h2
theorem HpF.top {n : Nat} {f : Nat → Rp} (h : HpF n f) : ∀ k, k < n → leP (f 0) (f k) := fun k => by
  induction k using Nat.strongRecOn with
  | _ k ih =>
    intro hk
    by_cases e : k = 0
    · subst e; exact leP_refl _
    · exact leP_trans (ih ((k - 1) / 2) (by omega) (by omega)) (h k (by omega) hk)
/-- What stands in the heap. -/
def InH (n : Nat) (f : Nat → Rp) (p : Rp) : Prop := ∃ k, k < n ∧ f k = p
/-- No side stands twice in it. -/
def Dst (n : Nat) (f : Nat → Rp) : Prop := ∀ i j, i < n → j < n → (f i).2 = (f j).2 → i = j
theorem inH_sw {n : Nat} {f : Nat → Rp} {i j : Nat} (hi : i < n) (hj : j < n) (p : Rp) : InH n (swF f i j) p ↔ InH n f p := by
  constructor
  · rintro ⟨k, hk, rfl⟩
    by_cases e1 : k = i
    · subst e1; exact ⟨j, hj, (sw_i f k j).symm⟩
    · by_cases e2 : k = j
      · subst e2; exact ⟨i, hi, (sw_j f i k).symm⟩
      · exact ⟨k, hk, (sw_ne f e1 e2).symm⟩
  · rintro ⟨k, hk, rfl⟩
    by_cases e1 : k = i
    · subst e1; exact ⟨j, hj, sw_j f k j⟩
    · by_cases e2 : k = j
      · subst e2; exact ⟨i, hi, sw_i f i k⟩
      · exact ⟨k, hk, sw_ne f e1 e2⟩
theorem dst_sw {n : Nat} {f : Nat → Rp} {i j : Nat} (hi : i < n) (hj : j < n) (h : Dst n f) : Dst n (swF f i j) := by
  have key : ∀ k, k < n → ∃ k', k' < n ∧ swF f i j k = f k' ∧ (k' = if k = i then j else if k = j then i else k) := fun k hk => by
    by_cases e1 : k = i
    · subst e1; exact ⟨j, hj, sw_i f k j, by simp⟩
    · by_cases e2 : k = j
      · subst e2; exact ⟨i, hi, sw_j f i k, by simp [e1]⟩
      · exact ⟨k, hk, sw_ne f e1 e2, by simp [e1, e2]⟩
  intro a b ha hb hab
  obtain ⟨a', ha', ea, ea'⟩ := key a ha
  obtain ⟨b', hb', eb, eb'⟩ := key b hb
  rw [ea, eb] at hab
  have e := h a' b' ha' hb' hab
  rw [ea', eb'] at e
  clear ea' eb' ea eb key hab
  repeat' split at e
  all_goals omega
/-- What is pushed, put right: the list is a heap again, with one more in it. -/
structure Same (n : Nat) (f f' : Nat → Rp) : Prop where
  mem : ∀ p, InH n f' p ↔ InH n f p
  dst : Dst n f → Dst n f'
theorem Same.refl (n : Nat) (f : Nat → Rp) : Same n f f := ⟨fun _ => Iff.rfl, id⟩
theorem Same.sw {n : Nat} {f f' : Nat → Rp} (h : Same n f f') {i j : Nat} (hi : i < n) (hj : j < n) : Same n f (swF f' i j) :=
  ⟨fun p => (inH_sw hi hj p).trans (h.mem p), fun hd => dst_sw hi hj (h.dst hd)⟩
/-- One more at the end. -/
def snF (f : Nat → Rp) (n : Nat) (p : Rp) : Nat → Rp := fun k => if k = n then p else f k
theorem hpU_snoc {n : Nat} {f : Nat → Rp} (h : HpF n f) (p : Rp) : HpU (n + 1) (snF f n p) n := by
  refine ⟨fun k h0 hk hne => ?_, fun k h0 hk hkp hi => by omega⟩
  unfold snF
  rw [if_neg (by omega), if_neg hne]
  exact h k h0 (by omega)
theorem inH_snoc {n : Nat} {f : Nat → Rp} {p q : Rp} : InH (n + 1) (snF f n p) q ↔ q = p ∨ InH n f q := by
  constructor
  · rintro ⟨k, hk, rfl⟩
    by_cases e : k = n
    · left; simp [snF, e]
    · right; exact ⟨k, by omega, by simp [snF, e]⟩
  · rintro (rfl | ⟨k, hk, rfl⟩)
    · exact ⟨n, by omega, by simp [snF]⟩
    · exact ⟨k, by omega, by unfold snF; rw [if_neg (by omega)]⟩
theorem dst_snoc {n : Nat} {f : Nat → Rp} {p : Rp} (h : Dst n f) (hp : ∀ q, InH n f q → q.2 ≠ p.2) : Dst (n + 1) (snF f n p) := by
  intro i j hi hj hij
  by_cases e1 : i = n
  · by_cases e2 : j = n
    · omega
    · exfalso
      unfold snF at hij
      rw [if_pos e1, if_neg e2] at hij
      exact hp _ ⟨j, by omega, rfl⟩ hij.symm
  · by_cases e2 : j = n
    · exfalso
      unfold snF at hij
      rw [if_neg e1, if_pos e2] at hij
      exact hp _ ⟨i, by omega, rfl⟩ hij
    · unfold snF at hij
      rw [if_neg e1, if_neg e2] at hij
      exact h i j (by omega) (by omega) hij
/-- The first one goes to the end. -/
theorem hpD_pop {n : Nat} {f : Nat → Rp} (h : HpF (n + 1) f) : HpD n (swF f 0 n) 0 := by
  refine ⟨fun k h0 hk hne => ?_, fun k h0 hk hkp hi => by omega⟩
  rw [sw_ne f hne (by omega), sw_ne f (by omega) (by omega)]
  exact h k h0 (by omega)
theorem inH_pop {n : Nat} {f : Nat → Rp} (hd : Dst (n + 1) f) (p : Rp) : InH n (swF f 0 n) p ↔ InH (n + 1) f p ∧ p.2 ≠ (f 0).2 := by
  constructor
  · rintro ⟨k, hk, rfl⟩
    by_cases e : k = 0
    · subst e
      rw [sw_i]
      exact ⟨⟨n, by omega, rfl⟩, fun e => by have := hd n 0 (by omega) (by omega) e; omega⟩
    · rw [sw_ne f e (by omega)]
      exact ⟨⟨k, by omega, rfl⟩, fun e2 => e (hd k 0 (by omega) (by omega) e2)⟩
  · rintro ⟨⟨k, hk, rfl⟩, hne⟩
    by_cases e : k = 0
    · subst e; exact absurd rfl hne
    · by_cases e2 : k = n
      · subst e2
        exact ⟨0, by omega, sw_i f 0 k⟩
      · exact ⟨k, by omega, sw_ne f e e2⟩
theorem dst_less {n m : Nat} {f : Nat → Rp} (h : Dst n f) (hm : m ≤ n) : Dst m f := fun i j hi hj => h i j (by omega) (by omega)
end Go.Proofs.Yteedainidoldoaa
