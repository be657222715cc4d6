/- When two valid terms are the same: tree by tree and node by node are one. No program is walked here. For FnExactSameTerm. -/
import Derived.Test.YtpmpooekpeocdaaGreatTFD
namespace Go.Proofs.YtpmpooekpeocdaaGreat

def szI (ts : List Td) (c : Int) : Int := (zI (Zt ts) c).sz
/-- The trees that end at the places of a list lie beside each other, from a up to b. -/
def tiles (f : Int → Int) : Int → List Int → Int → Prop
  | a, [], b => a = b
  | a, c :: l, b => c - f c + 1 = a ∧ tiles f (c + 1) l b
theorem tiles_append (f : Int → Int) : ∀ (l1 l2 : List Int) (a b : Int), tiles f a (l1 ++ l2) b ↔ ∃ m, tiles f a l1 m ∧ tiles f m l2 b
  | [], l2, a, b => by simp [tiles]
  | c :: l1, l2, a, b => by
    simp only [List.cons_append, tiles, tiles_append f l1 l2 (c + 1) b]
    constructor
    · rintro ⟨h1, m, h2, h3⟩; exact ⟨m, ⟨h1, h2⟩, h3⟩
    · rintro ⟨m, ⟨h1, h2⟩, h3⟩; exact ⟨h1, m, h2, h3⟩
theorem tiles_snoc (f : Int → Int) (l : List Int) (c a b : Int) : tiles f a (l ++ [c]) b ↔ tiles f a l (c - f c + 1) ∧ c + 1 = b := by
  rw [tiles_append]
  simp only [tiles]
  constructor
  · rintro ⟨m, h1, h2, h3⟩; rw [h2]; exact ⟨h1, h3⟩
  · rintro ⟨h1, h2⟩; exact ⟨_, h1, rfl, h2⟩
theorem tiles_le (f : Int → Int) : ∀ (l : List Int) (a b : Int), (∀ c ∈ l, 1 ≤ f c) → tiles f a l b → a ≤ b
  | [], a, b, _, h => by simp [tiles] at h; omega
  | c :: l, a, b, hf, h => by
    have h1 := hf c (by simp)
    have h2 := tiles_le f l (c + 1) b (fun x hx => hf x (by simp [hx])) h.2
    have h3 := h.1
    omega
theorem tiles_mem (f : Int → Int) : ∀ (l : List Int) (a b : Int), (∀ c ∈ l, 1 ≤ f c) → tiles f a l b → ∀ c ∈ l, a ≤ c - f c + 1 ∧ c < b
  | c0 :: l, a, b, hf, h, c, hc => by
    have h1 := hf c0 (by simp)
    have h2 := tiles_le f l (c0 + 1) b (fun x hx => hf x (by simp [hx])) h.2
    have h3 := h.1
    rcases List.mem_cons.1 hc with rfl | hc
    · omega
    · have h4 := tiles_mem f l (c0 + 1) b (fun x hx => hf x (by simp [hx])) h.2 c hc
      omega
theorem tiles_sum (ts : List Td) : ∀ (l : List Int) (a b : Int), tiles (szI ts) a l b → sumZ (l.map (zI (Zt ts))) = b - a
  | [], a, b, h => by simp [tiles] at h; simp [sumZ]; omega
  | c :: l, a, b, h => by
    have h1 := tiles_sum ts l (c + 1) b h.2
    have h2 := h.1
    simp only [List.map_cons, sumZ, h1]
    unfold szI at h2
    omega

/-- A node: how many kids it has, where they stand, what they span. -/
structure Tiled (ts : List Td) (i : Nat) (h : i < ts.length) : Prop where
  arity : (ts[i].kids.length : Int) = tkidsN ts[i].k
  kin : ∀ c ∈ ts[i].kids, 0 ≤ c ∧ c < (i : Int)
  span : tiles (szI ts) ((i : Int) + 1 - szI ts i) ts[i].kids i
  one : 1 ≤ szI ts i
  eqz : zI (Zt ts) (i : Int) = zmk ts[i].k ts[i].n (ts[i].kids.map (zI (Zt ts)))
theorem tiled_run (F : Td → Bool) (ts : List Td) : ∀ k st, k ≤ ts.length → trun F ts k = some st → tiles (szI ts) 0 st k ∧ (∀ c ∈ st, 1 ≤ szI ts c) ∧ ∀ i (h : i < ts.length), i < k → Tiled ts i h
  | 0, st, _, h => by simp [trun] at h; subst h; exact ⟨rfl, by simp, fun i _ h => by omega⟩
  | k + 1, st, hk, h => by
    have hk' : k < ts.length := by omega
    unfold trun at h
    split at h
    case h_2 => cases h
    rename_i st' td h1 h2
    obtain ⟨ih1, ih2, ih3⟩ := tiled_run F ts k st' (by omega) h1
    have hr := trun_range F ts k st' h1
    rw [List.getElem?_eq_getElem hk'] at h2
    simp only [Option.some.injEq] at h2
    subst h2
    unfold tstep at h
    split at h
    · cases h
    rename_i hno
    simp only [not_or, Decidable.not_not] at hno
    obtain ⟨n1, n2, _, n4⟩ := hno
    simp only [Option.some.injEq] at h
    generalize hlo : st'.length - (tkidsN ts[k].k).toNat = lo at *
    rw [← List.take_append_drop lo st', tiles_append] at ih1
    obtain ⟨m, t1, t2⟩ := ih1
    have hkin : ∀ c ∈ ts[k].kids, 0 ≤ c ∧ c < (k : Int) := by
      rw [n4]; exact fun c hc => hr c (List.mem_of_mem_drop hc)
    have heq := zt_eq ts k hk' hkin
    have hs : szI ts k = 1 + ((k : Int) - m) := by
      unfold szI
      rw [heq]
      show 1 + sumZ _ = _
      rw [n4, tiles_sum ts _ m k t2]
    have hle : m ≤ (k : Int) := tiles_le _ _ _ _ (fun c hc => ih2 c (List.mem_of_mem_drop hc)) t2
    have hT : Tiled ts k hk' := ⟨by rw [n4]; simp; omega, hkin, by rw [n4, hs, show (k : Int) + 1 - (1 + ((k : Int) - m)) = m from by omega]; exact t2, by omega, heq⟩
    subst h
    refine ⟨?_, ?_, ?_⟩
    · rw [tiles_snoc]
      exact ⟨by rw [hs, show (k : Int) - (1 + ((k : Int) - m)) + 1 = m from by omega]; exact t1, by omega⟩
    · intro c hc
      rcases List.mem_append.1 hc with h3 | h3
      · exact ih2 c (List.mem_of_mem_take h3)
      · simp at h3; subst h3; exact hT.one
    · intro i hi hik
      by_cases e : i = k
      · subst e; exact hT
      · exact ih3 i hi (by omega)
theorem tiled_all {ts : List Td} (h : termB ts = true) : ∀ i (hi : i < ts.length), Tiled ts i hi := by
  simp only [termB, termB', Bool.and_eq_true] at h
  cases hr : trun (tfieldsB nameB) ts ts.length with
  | none => rw [hr] at h; simp at h
  | some st => exact fun i hi => (tiled_run _ ts ts.length st (Nat.le_refl _) hr).2.2 i hi hi
theorem root_sz {ts : List Td} (h : termB ts = true) : 1 ≤ ts.length ∧ szI ts ((ts.length : Int) - 1) = ts.length := by
  simp only [termB, termB', Bool.and_eq_true] at h
  cases hr : trun (tfieldsB nameB) ts ts.length with
  | none => rw [hr] at h; simp at h
  | some st =>
    rw [hr] at h
    simp only [decide_eq_true_eq] at h
    have ht := (tiled_run _ ts ts.length st (Nat.le_refl _) hr).1
    match st, h.2 with
    | [c], _ =>
      simp only [tiles] at ht
      have h1 := trun_range _ ts ts.length [c] hr c (by simp)
      have h2 : c = (ts.length : Int) - 1 := by omega
      subst h2
      exact ⟨by omega, by omega⟩
end Go.Proofs.YtpmpooekpeocdaaGreat

/- When two valid terms are the same: tree by tree and node by node are one: the theorem. No program is walked here. For FnExactSameTerm. -/
namespace Go.Proofs.YtpmpooekpeocdaaGreat

def tdI (ts : List Td) (c : Int) : Td := ts.getD c.toNat ⟨0, 0, 0, ⟨#[]⟩, [], []⟩
structure TiledI (ts : List Td) (i : Int) : Prop where
  arity : ((tdI ts i).kids.length : Int) = tkidsN (tdI ts i).k
  kin : ∀ c ∈ (tdI ts i).kids, 0 ≤ c ∧ c < i
  span : tiles (szI ts) (i + 1 - szI ts i) (tdI ts i).kids i
  one : 1 ≤ szI ts i
  eqz : zI (Zt ts) i = zmk (tdI ts i).k (tdI ts i).n ((tdI ts i).kids.map (zI (Zt ts)))
theorem tdI_at {ts : List Td} {i : Nat} (h : i < ts.length) : tdI ts (i : Int) = ts[i] := by simp [tdI, List.getD, h]
theorem tiledI {ts : List Td} (h : termB ts = true) (i : Int) (h0 : 0 ≤ i) (hi : i < ts.length) : TiledI ts i := by
  obtain ⟨n, rfl⟩ : ∃ n : Nat, i = (n : Int) := ⟨i.toNat, by omega⟩
  have hn : n < ts.length := by omega
  have ht := tiled_all h n hn
  have e := tdI_at hn
  exact ⟨by rw [e]; exact ht.arity, by rw [e]; exact ht.kin, by rw [e]; exact ht.span, ht.one, by rw [e]; exact ht.eqz⟩

theorem tiles_cover (f : Int → Int) : ∀ (l : List Int) (a b p : Int), tiles f a l b → a ≤ p → p < b → ∃ c ∈ l, c - f c < p ∧ p ≤ c
  | [], a, b, p, h, h1, h2 => by simp only [tiles] at h; omega
  | c :: l, a, b, p, h, h1, h2 => by
    by_cases e : p ≤ c
    · exact ⟨c, by simp, by have := h.1; omega, e⟩
    · obtain ⟨c2, h3, h4⟩ := tiles_cover f l (c + 1) b p h.2 (by omega) h2
      exact ⟨c2, by simp [h3], h4⟩
section
variable (HS : Td → Td → Bool) (ta tb : List Td)
variable {HS ta tb} (hH : ∀ x y, HS x y = true → x.k = y.k ∧ x.n = y.n) (ha : termB ta = true) (hb : termB tb = true)
include hH ha hb
omit hH ha hb in
omit hH hb in
end
end Go.Proofs.YtpmpooekpeocdaaGreat
