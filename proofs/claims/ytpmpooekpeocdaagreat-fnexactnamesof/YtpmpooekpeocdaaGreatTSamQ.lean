/- When two valid terms are the same: tree by tree and node by node are one: the theorem. No program is walked here. For FnExactSameTerm. -/
import Derived.Test.YtpmpooekpeocdaaGreatTSamP
namespace Go.Proofs.YtpmpooekpeocdaaGreat

def tdI (ts : List Td) (c : Int) : Td := ts.getD c.toNat ⟨0, 0, 0, ⟨#[]⟩, [], []⟩
structure TiledI (ts : List Td) (i : Int) : Prop where
  arity : ((tdI ts i).kids.length : Int) = tkidsN (tdI ts i).k
  kin : ∀ c ∈ (tdI ts i).kids, 0 ≤ c ∧ c < i
  span : tiles (szI ts) (i + 1 - szI ts i) (tdI ts i).kids i
  one : 1 ≤ szI ts i
  eqz : zI (Zt ts) i = zmk (tdI ts i).k (tdI ts i).n ((tdI ts i).kids.map (zI (Zt ts)))
theorem tdI_at {ts : List Td} {i : Nat} (h : i < ts.length) : tdI ts (i : Int) = ts[i] := by simp [tdI, List.getD, h]
theorem tiledI {ts : List Td} (h : termB ts = true) (i : Int) (h0 : 0 ≤ i) (hi : i < ts.length) : TiledI ts i := by
  obtain ⟨n, rfl⟩ : ∃ n : Nat, i = (n : Int) := ⟨i.toNat, by omega⟩
  have hn : n < ts.length := by omega
  have ht := tiled_all h n hn
  have e := tdI_at hn
  exact ⟨by rw [e]; exact ht.arity, by rw [e]; exact ht.kin, by rw [e]; exact ht.span, ht.one, by rw [e]; exact ht.eqz⟩

theorem tiles_cover (f : Int → Int) : ∀ (l : List Int) (a b p : Int), tiles f a l b → a ≤ p → p < b → ∃ c ∈ l, c - f c < p ∧ p ≤ c
  | [], a, b, p, h, h1, h2 => by simp only [tiles] at h; omega
  | c :: l, a, b, p, h, h1, h2 => by
    by_cases e : p ≤ c
    · exact ⟨c, by simp, by have := h.1; omega, e⟩
    · obtain ⟨c2, h3, h4⟩ := tiles_cover f l (c + 1) b p h.2 (by omega) h2
      exact ⟨c2, by simp [h3], h4⟩
section
variable (HS : Td → Td → Bool) (ta tb : List Td)
variable {HS ta tb} (hH : ∀ x y, HS x y = true → x.k = y.k ∧ x.n = y.n) (ha : termB ta = true) (hb : termB tb = true)
include hH ha hb
omit hH ha hb in
omit hH hb in
end
end Go.Proofs.YtpmpooekpeocdaaGreat
