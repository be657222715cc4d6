/- When two valid terms are the same: tree by tree and node by node are one: the theorem. No program is walked here. For FnExactSameTerm. -/
import Derived.Test.YtbgibiongnhjoaaGreatTSamP
namespace Go.Proofs.YtbgibiongnhjoaaGreat

def tdI (ts : List Td) (c : Int) : Td := ts.getD c.toNat ⟨0, 0, 0, ⟨#[]⟩, [], []⟩
def loI (ts : List Td) (c : Int) : Int := (zI (Zt ts) c).lo
structure TiledI (ts : List Td) (i : Int) : Prop where
  arity : ((tdI ts i).kids.length : Int) = tkidsN (tdI ts i).k
  kin : ∀ c ∈ (tdI ts i).kids, 0 ≤ c ∧ c < i
  span : tiles (szI ts) (i + 1 - szI ts i) (tdI ts i).kids i
  one : 1 ≤ szI ts i
  eqz : zI (Zt ts) i = zmk (tdI ts i).k (tdI ts i).n ((tdI ts i).kids.map (zI (Zt ts)))
theorem tdI_at {ts : List Td} {i : Nat} (h : i < ts.length) : tdI ts (i : Int) = ts[i] := by simp [tdI, List.getD, h]
theorem tiledI {ts : List Td} (h : termB ts = true) (i : Int) (h0 : 0 ≤ i) (hi : i < ts.length) : TiledI ts i := by
  obtain ⟨n, rfl⟩ : ∃ n : Nat, i = (n : Int) := ⟨i.toNat, by omega⟩
  have hn : n < ts.length := by omega
  have ht := tiled_all h n hn
  have e := tdI_at hn
  exact ⟨by rw [e]; exact ht.arity, by rw [e]; exact ht.kin, by rw [e]; exact ht.span, ht.one, by rw [e]; exact ht.eqz⟩

def all2 (f : Int → Int → Bool) : List Int → List Int → Bool
  | [], [] => true
  | a :: l, b :: m => f a b && all2 f l m
  | _, _ => false
theorem all2_zip (f : Int → Int → Bool) : ∀ (l m : List Int), all2 f l m = true → l.length = m.length ∧ ∀ p ∈ l.zip m, f p.1 p.2 = true
  | [], [], _ => by simp
  | a :: l, b :: m, h => by
    simp only [all2, Bool.and_eq_true] at h
    obtain ⟨h1, h2⟩ := all2_zip f l m h.2
    exact ⟨by simp [h1], by
      intro p hp
      simp only [List.zip_cons_cons, List.mem_cons] at hp
      rcases hp with rfl | hp
      · exact h.1
      · exact h2 p hp⟩
  | [], _ :: _, h => by simp [all2] at h
  | _ :: _, [], h => by simp [all2] at h
theorem all2_map (f : Int → Int → Bool) (d : Int) : ∀ (l : List Int), (∀ c ∈ l, f c (c - d) = true) → all2 f l (l.map (· - d)) = true
  | [], _ => rfl
  | a :: l, h => by
    simp only [List.map_cons, all2, h a (by simp), Bool.true_and]
    exact all2_map f d l (fun c hc => h c (by simp [hc]))
/-- Trees of the same sizes beside each other end at the same distances. -/
theorem tiles_shift {f g : Int → Int} (d : Int) : ∀ (n : Nat) (la lb : List Int), la.length = n → lb.length = n → ∀ a b pa, tiles f a la pa → tiles g b lb (pa - d) → (∀ c c', (c, c') ∈ la.zip lb → c' = c - d → g c' = f c) → b = a - d ∧ lb = la.map (· - d)
  | 0, la, lb, h1, h2, a, b, pa, t1, t2, _ => by
    have e1 := List.eq_nil_of_length_eq_zero h1
    have e2 := List.eq_nil_of_length_eq_zero h2
    subst e1 e2
    simp only [tiles] at t1 t2
    exact ⟨by omega, rfl⟩
  | n + 1, la, lb, h1, h2, a, b, pa, t1, t2, hs => by
    obtain ⟨la', c, rfl⟩ : ∃ l c, la = l ++ [c] := ⟨la.dropLast, la.getLast (by intro e; simp [e] at h1), (List.dropLast_concat_getLast _).symm⟩
    obtain ⟨lb', c', rfl⟩ : ∃ l c, lb = l ++ [c] := ⟨lb.dropLast, lb.getLast (by intro e; simp [e] at h2), (List.dropLast_concat_getLast _).symm⟩
    simp only [List.length_append, List.length_singleton, Nat.add_right_cancel_iff] at h1 h2
    rw [tiles_snoc] at t1 t2
    have hz : (la' ++ [c]).zip (lb' ++ [c']) = la'.zip lb' ++ [(c, c')] := by rw [List.zip_append (by omega)]; rfl
    have e : c' = c - d := by omega
    have h3 := hs c c' (by rw [hz]; simp) e
    have h4 := t2.1
    rw [h3, e] at h4
    rw [show c - d - f c + 1 = (c - f c + 1) - d from by omega] at h4
    obtain ⟨r1, r2⟩ := tiles_shift d n la' lb' h1 h2 a b (c - f c + 1) t1.1 h4 (fun x x' hx => hs x x' (by rw [hz]; exact List.mem_append_left _ hx))
    exact ⟨r1, by rw [r2, e]; simp⟩
theorem tiles_cover (f : Int → Int) : ∀ (l : List Int) (a b p : Int), tiles f a l b → a ≤ p → p < b → ∃ c ∈ l, c - f c < p ∧ p ≤ c
  | [], a, b, p, h, h1, h2 => by simp only [tiles] at h; omega
  | c :: l, a, b, p, h, h1, h2 => by
    by_cases e : p ≤ c
    · exact ⟨c, by simp, by have := h.1; omega, e⟩
    · obtain ⟨c2, h3, h4⟩ := tiles_cover f l (c + 1) b p h.2 (by omega) h2
      exact ⟨c2, by simp [h3], h4⟩
theorem loP_congr (k n : Int) : ∀ (zs zs' : List Zs) (j : Nat), zs.length = zs'.length → (∀ q, (zs.getD q ⟨0, 0, false⟩).lo = (zs'.getD q ⟨0, 0, false⟩).lo) → loP k n zs j = loP k n zs' j
  | _, _, 0, _, _ => rfl
  | zs, zs', j + 1, hl, h => by
    have ih := loP_congr k n zs zs' j hl h
    unfold loP freeAt lastB
    rw [ih, h j, hl]

section
variable (HS : Td → Td → Bool) (ta tb : List Td)
def sameF : Nat → Int → Int → Bool
  | 0, _, _ => false
  | n + 1, i, j => HS (tdI ta i) (tdI tb j) && decide (szI ta i = szI tb j) && decide (loI ta i = loI tb j) && all2 (sameF n) (tdI ta i).kids (tdI tb j).kids
def Rng (i j : Int) : Prop := ∀ p : Int, i - szI ta i < p → p ≤ i → HS (tdI ta p) (tdI tb (p - (i - j))) = true

variable {HS ta tb} (hH : ∀ x y, HS x y = true → x.k = y.k ∧ x.n = y.n) (ha : termB ta = true) (hb : termB tb = true)
include hH ha hb
omit hH ha hb in
theorem rng_head {i j : Int} (h : Rng HS ta tb i j) (ho : 1 ≤ szI ta i) : HS (tdI ta i) (tdI tb j) = true := by
  have := h i (by omega) (Int.le_refl _)
  rwa [show i - (i - j) = j from by omega] at this
omit hH hb in
theorem rng_kid {i j c : Int} (h : Rng HS ta tb i j) (hi0 : 0 ≤ i) (hi : i < ta.length) (hc : c ∈ (tdI ta i).kids) : Rng HS ta tb c (c - (i - j)) := by
  have T := tiledI ha i hi0 hi
  have hm := tiles_mem _ _ _ _ (fun x hx => (tiledI ha x (T.kin x hx).1 (by have := (T.kin x hx).2; omega)).one) T.span c hc
  intro p h1 h2
  have := h p (by omega) (by omega)
  rwa [show c - (c - (i - j)) = i - j from by omega]
theorem sz_same : ∀ (n : Nat) (i j : Int), 0 ≤ i → i < n → i < ta.length → 0 ≤ j → j < tb.length → Rng HS ta tb i j → szI tb j = szI ta i ∧ (tdI tb j).kids = (tdI ta i).kids.map (· - (i - j))
  | 0, i, j, h0, hn, _, _, _, _ => by omega
  | n + 1, i, j, h0, hn, hi, hj0, hj, hr => by
    have A := tiledI ha i h0 hi
    have B := tiledI hb j hj0 hj
    obtain ⟨hk, _⟩ := hH _ _ (rng_head hr A.one)
    have hl : (tdI tb j).kids.length = (tdI ta i).kids.length := by
      have h1 := A.arity
      have h2 := B.arity
      rw [← hk] at h2
      omega
    have t2 := B.span
    obtain ⟨r1, r2⟩ := tiles_shift (i - j) _ _ _ rfl hl _ _ i A.span (by rw [show i - (i - j) = j from by omega]; exact t2) (fun c c' hz e => by
      have m1 := (List.of_mem_zip hz).1
      have m2 := (List.of_mem_zip hz).2
      have k1 := A.kin c m1
      have k2 := B.kin c' m2
      have := sz_same n c c' k1.1 (by omega) (by omega) k2.1 (by omega) (by rw [e]; exact rng_kid ha hr h0 hi m1)
      exact this.1)
    exact ⟨by omega, r2⟩
theorem same_iff : ∀ (n : Nat) (i j : Int), 0 ≤ i → i < n → i < ta.length → 0 ≤ j → j < tb.length → (sameF HS ta tb n i j = true ↔ szI ta i = szI tb j ∧ Rng HS ta tb i j)
  | 0, i, j, h0, hn, _, _, _ => by omega
  | n + 1, i, j, h0, hn, hi, hj0, hj => by
    have A := tiledI ha i h0 hi
    have B := tiledI hb j hj0 hj
    constructor
    · intro h
      simp only [sameF, Bool.and_eq_true, decide_eq_true_eq] at h
      obtain ⟨⟨⟨h1, h2⟩, h3⟩, h4⟩ := h
      obtain ⟨hl, hz⟩ := all2_zip _ _ _ h4
      have IH := fun c c' (hc : (c, c') ∈ (tdI ta i).kids.zip (tdI tb j).kids) =>
        (same_iff n c c' (A.kin c (List.of_mem_zip hc).1).1 (by have := (A.kin c (List.of_mem_zip hc).1).2; omega) (by have := (A.kin c (List.of_mem_zip hc).1).2; omega) (B.kin c' (List.of_mem_zip hc).2).1 (by have := (B.kin c' (List.of_mem_zip hc).2).2; omega)).1 (hz (c, c') hc)
      obtain ⟨r1, r2⟩ := tiles_shift (i - j) _ _ _ rfl hl.symm _ _ i A.span (by rw [show i - (i - j) = j from by omega]; exact B.span) (fun c c' hc _ => (IH c c' hc).1.symm)
      refine ⟨h2, fun p p1 p2 => ?_⟩
      by_cases e : p = i
      · subst e; rwa [show p - (p - j) = j from by omega]
      · obtain ⟨c, hc, c1, c2⟩ := tiles_cover _ _ _ _ p A.span (by omega) (by omega)
        have hm : (c, c - (i - j)) ∈ (tdI ta i).kids.zip (tdI tb j).kids := by
          rw [r2, List.zip_map_right]
          refine List.mem_map.2 ⟨(c, c), ?_, rfl⟩
          rw [List.mem_iff_getElem] at hc
          obtain ⟨q, hq, rfl⟩ := hc
          rw [List.mem_iff_getElem]
          exact ⟨q, by simpa using hq, by simp⟩
        have := (IH c _ hm).2 p c1 c2
        rwa [show c - (c - (i - j)) = i - j from by omega] at this
    · rintro ⟨h2, hr⟩
      have hh := rng_head hr A.one
      obtain ⟨hk, hn'⟩ := hH _ _ hh
      obtain ⟨_, r2⟩ := sz_same hH ha hb (n + 1) i j h0 hn hi hj0 hj hr
      have hkid : ∀ c ∈ (tdI ta i).kids, sameF HS ta tb n c (c - (i - j)) = true := fun c hc => by
        have k1 := A.kin c hc
        have k2 := B.kin (c - (i - j)) (by rw [r2]; exact List.mem_map.2 ⟨c, hc, rfl⟩)
        have hrk := rng_kid ha hr h0 hi hc
        exact (same_iff n c (c - (i - j)) k1.1 (by omega) (by omega) k2.1 (by omega)).2 ⟨(sz_same hH ha hb (n + 1) c (c - (i - j)) k1.1 (by omega) (by omega) k2.1 (by omega) hrk).1.symm, hrk⟩
      have hlo : loI ta i = loI tb j := by
        unfold loI
        rw [A.eqz, B.eqz, hk, hn', r2]
        show loP _ _ _ _ = loP _ _ _ _
        rw [List.length_map, List.length_map, List.length_map]
        apply loP_congr _ _ _ _ _ (by simp)
        intro q
        by_cases hq : q < (tdI ta i).kids.length
        · have hs := hkid _ (List.getElem_mem hq)
          cases n with
          | zero => simp [sameF] at hs
          | succ n =>
            simp only [sameF, Bool.and_eq_true, decide_eq_true_eq] at hs
            simpa [List.getD, hq, loI] using hs.1.2
        · simp [List.getD, hq]
      simp only [sameF, Bool.and_eq_true, decide_eq_true_eq]
      exact ⟨⟨⟨hh, h2⟩, hlo⟩, by rw [r2]; exact all2_map _ _ _ hkid⟩
/-- Two valid terms: the trees are the same just when there are as many nodes and those at each place are alike. -/
theorem same_all (n : Nat) (hn : ta.length ≤ n) : sameF HS ta tb n ((ta.length : Int) - 1) ((tb.length : Int) - 1) = true ↔ ta.length = tb.length ∧ ∀ p : Nat, p < ta.length → HS (tdI ta p) (tdI tb p) = true := by
  obtain ⟨a1, a2⟩ := root_sz ha
  obtain ⟨b1, b2⟩ := root_sz hb
  rw [same_iff hH ha hb n _ _ (by omega) (by omega) (by omega) (by omega) (by omega)]
  rw [a2, b2]
  constructor
  · rintro ⟨h1, h2⟩
    refine ⟨by omega, fun p hp => ?_⟩
    have := h2 p (by rw [a2]; omega) (by omega)
    rwa [show (p : Int) - ((ta.length : Int) - 1 - ((tb.length : Int) - 1)) = p from by omega] at this
  · rintro ⟨h1, h2⟩
    refine ⟨by omega, fun p p1 p2 => ?_⟩
    rw [a2] at p1
    have := h2 p.toNat (by omega)
    rw [show ((p.toNat : Nat) : Int) = p from by omega] at this
    rwa [show p - ((ta.length : Int) - 1 - ((tb.length : Int) - 1)) = p from by omega]
end
end Go.Proofs.YtbgibiongnhjoaaGreat
