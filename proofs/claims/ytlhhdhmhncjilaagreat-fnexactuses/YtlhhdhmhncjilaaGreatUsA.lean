/- How often a term uses a variable: no program is walked here. -/
import Derived.Test.YtlhhdhmhncjilaaGreatStG
namespace Go.Proofs.YtlhhdhmhncjilaaGreat

def upTo (f : Nat → Int) : Nat → Int
  | 0 => 0
  | j + 1 => upTo f j + f j
/-- How often a variable is used in the first kids of a node. -/
def usesK (g : Nat → Int → Int) (td : Td) (v : Int) (j : Nat) : Int := upTo (fun q => g (td.kids.getD q 0).toNat (v + bindN td.k q)) j
/-- How often the part below a node uses a variable. -/
def usesN (ts : List Td) : Nat → Nat → Int → Int
  | 0, _, _ => 0
  | n + 1, i, v => if (zI (Zt ts) (i : Int)).lo ≤ v then 0 else if (tdI ts (i : Int)).k = 1 ∧ (tdI ts (i : Int)).n = v then 1 else usesK (usesN ts n) (tdI ts (i : Int)) v (tdI ts (i : Int)).kids.length
theorem usesN_succ (ts : List Td) (n i : Nat) (v : Int) (hi : i < ts.length) : usesN ts (n + 1) i v = if (zI (Zt ts) (i : Int)).lo ≤ v then 0 else if ts[i].k = 1 ∧ ts[i].n = v then 1 else usesK (usesN ts n) ts[i] v ts[i].kids.length := by
  rw [usesN, tdI_at hi]
theorem usesK_succ (g : Nat → Int → Int) (td : Td) (v : Int) (j : Nat) (hj : j < td.kids.length) : usesK g td v (j + 1) = usesK g td v j + g (td.kids[j]).toNat (v + bindN td.k j) := by
  simp [usesK, upTo, List.getD, hj]
theorem usesK_bound (g : Nat → Int → Int) (td : Td) (v : Int) (Z : Int → Zs) (h : ∀ q (hq : q < td.kids.length) u, 0 ≤ g (td.kids[q]).toNat u ∧ g (td.kids[q]).toNat u ≤ (Z td.kids[q]).sz) : ∀ j, j ≤ td.kids.length → 0 ≤ usesK g td v j ∧ usesK g td v j ≤ sumZ ((td.kids.map Z).take j)
  | 0, _ => by simp [usesK, upTo, sumZ]
  | j + 1, hj => by
    have ih := usesK_bound g td v Z h j (by omega)
    have hh := h j (by omega) (v + bindN td.k j)
    rw [usesK_succ g td v j (by omega)]
    have hs := sumZ_snoc (td.kids.map Z) j (by simpa using (show j < td.kids.length by omega))
    rw [List.getElem_map] at hs
    rw [hs]
    omega
theorem uses_bound {ts : List Td} (ht : termB ts = true) : ∀ (n i : Nat) (v : Int), i < ts.length → 0 ≤ usesN ts n i v ∧ usesN ts n i v ≤ szI ts (i : Int)
  | 0, i, v, hi => ⟨Int.le_refl _, by have := (tiled_all ht i hi).one; simp only [usesN]; omega⟩
  | n + 1, i, v, hi => by
    have T := tiled_all ht i hi
    have h1 := T.one
    rw [usesN_succ ts n i v hi]
    split
    · omega
    split
    · omega
    have hb := usesK_bound (usesN ts n) ts[i] v (zI (Zt ts)) (fun q hq u => by
      have hk := T.kin _ (List.getElem_mem hq)
      have := uses_bound ht n (ts[i].kids[q]).toNat u (by omega)
      unfold szI at this
      rw [show (((ts[i].kids[q]).toNat : Nat) : Int) = ts[i].kids[q] by omega] at this
      exact this) ts[i].kids.length (Nat.le_refl _)
    have hs : szI ts (i : Int) = 1 + sumZ (ts[i].kids.map (zI (Zt ts))) := by unfold szI; rw [T.eqz]; rfl
    rw [List.take_of_length_le (by simp)] at hb
    omega
theorem usesK_le {ts : List Td} (ht : termB ts = true) (n i : Nat) (v : Int) (hi : i < ts.length) (j : Nat) (hj : j ≤ ts[i].kids.length) : 0 ≤ usesK (usesN ts n) ts[i] v j ∧ usesK (usesN ts n) ts[i] v j ≤ 20000 := by
  have T := tiled_all ht i hi
  have hb := usesK_bound (usesN ts n) ts[i] v (zI (Zt ts)) (fun q hq u => by
    have hk := T.kin _ (List.getElem_mem hq)
    have := uses_bound ht n (ts[i].kids[q]).toNat u (by omega)
    unfold szI at this
    rw [show (((ts[i].kids[q]).toNat : Nat) : Int) = ts[i].kids[q] by omega] at this
    exact this) j hj
  have hs : szI ts (i : Int) = 1 + sumZ (ts[i].kids.map (zI (Zt ts))) := by unfold szI; rw [T.eqz]; rfl
  have hsplit := sumZ_split (ts[i].kids.map (zI (Zt ts))) j
  have hdrop := sumZ_nonneg ((ts[i].kids.map (zI (Zt ts))).drop j) (fun z hz => by
    obtain ⟨c, hc, rfl⟩ := List.mem_map.1 (List.mem_of_mem_drop hz)
    have hk := T.kin c hc
    have := (tiled_all ht c.toNat (by omega)).one
    unfold szI at this
    rw [show ((c.toNat : Nat) : Int) = c by omega] at this
    omega)
  have := sz_le ht i hi
  have := len_of ht
  omega
theorem num_le {ts : List Td} (ht : termB ts = true) (i : Nat) (hi : i < ts.length) : ts[i].k = 1 → 0 ≤ ts[i].n ∧ ts[i].n ≤ 20000 := num_of (fields_all ht i hi)
theorem lo_le {ts : List Td} (ht : termB ts = true) : ∀ i : Nat, i < ts.length → 0 ≤ (zI (Zt ts) (i : Int)).lo ∧ (zI (Zt ts) (i : Int)).lo ≤ 20001 := by
  intro i
  induction i using Nat.strongRecOn with
  | ind i ih =>
    intro hi
    have T := tiled_all ht i hi
    have h : ∀ z ∈ ts[i].kids.map (zI (Zt ts)), ZOk z := fun z hz => by
      obtain ⟨c, hc, rfl⟩ := List.mem_map.1 hz
      have hk := T.kin c hc
      have h1 := (tiled_all ht c.toNat (by omega)).one
      have h2 := ih c.toNat (by omega) (by omega)
      unfold szI at h1
      rw [show ((c.toNat : Nat) : Int) = c by omega] at h1 h2
      exact ⟨h1, h2⟩
    rw [T.eqz]
    exact loP_bounds ts[i].k ts[i].n _ h (num_le ht i hi) _
/-- A variable has nothing below it: it is used there once, or not at all. -/
theorem lo_var {ts : List Td} (ht : termB ts = true) (i : Nat) (hi : i < ts.length) (h1 : ts[i].k = 1) : (zI (Zt ts) (i : Int)).lo = ts[i].n + 1 := by
  have T := tiled_all ht i hi
  have ha := T.arity
  rw [h1] at ha
  have h0 : tkidsN 1 = 0 := by decide
  have hk : ts[i].kids = [] := List.eq_nil_of_length_eq_zero (by omega)
  rw [T.eqz, hk]
  simp [zmk, loP, h1]
end Go.Proofs.YtlhhdhmhncjilaaGreat
