/- Which tree the specification's l3Draw draws, as a plain function of the bytes, and what holds of it. No program is walked here. -/
import Derived.Test.YtjkkojefpecbfaaGreatDrA
namespace Go.Proofs.YtjkkojefpecbfaaGreat

/-- Whether all names in a tree of a level are among three. -/
def Tr.uvw : Tr → Prop
  | .leaf k s => k = 5 → s ∈ Go.Proofs.YtjkkojefpecbfaaGreat.uvw
  | .one k _ a => k ≠ 5 ∧ a.uvw
  | .two k _ a b => k ≠ 5 ∧ a.uvw ∧ b.uvw
def inU (acc : List ByteArray) : Nat := (if hasB acc ⟨#[117]⟩ = true then 1 else 0) + (if hasB acc ⟨#[118]⟩ = true then 1 else 0) + (if hasB acc ⟨#[119]⟩ = true then 1 else 0)
theorem inU_le (acc : List ByteArray) : inU acc ≤ 3 := by
  unfold inU
  repeat (first | omega | split)
theorem hasB_snoc (acc : List ByteArray) (s x : ByteArray) : hasB (acc ++ [s]) x = (hasB acc x || decide (s = x)) := by
  unfold hasB
  rw [List.any_append]
  simp
theorem addS_in {acc : List ByteArray} {s : ByteArray} (hs : s ∈ uvw) (h : acc.length ≤ inU acc) : (addS acc 5 s).length ≤ inU (addS acc 5 s) := by
  unfold addS
  split
  · rename_i hh
    obtain ⟨_, hh⟩ := hh
    simp only [uvw, List.mem_cons, List.not_mem_nil, or_false] at hs
    unfold inU at h ⊢
    rw [List.length_append, hasB_snoc, hasB_snoc, hasB_snoc]
    rcases hs with rfl | rfl | rfl
    · rw [hh] at h ⊢
      simp at h ⊢
      omega
    · rw [hh] at h ⊢
      simp at h ⊢
      omega
    · rw [hh] at h ⊢
      simp at h ⊢
      omega
  · exact h
theorem addS_ne {acc : List ByteArray} {k : Int} {s : ByteArray} (h : k ≠ 5) : addS acc k s = acc := by
  unfold addS
  rw [if_neg (fun e => h e.1)]
theorem names_in : ∀ (t : Tr) (acc : List ByteArray), t.uvw → acc.length ≤ inU acc → (t.names acc).length ≤ inU (t.names acc)
  | .leaf k s, acc, hu, h => by
    simp only [Tr.names]
    by_cases e : k = 5
    · subst e; exact addS_in (hu rfl) h
    · rw [addS_ne e]; exact h
  | .one k s a, acc, hu, h => by
    simp only [Tr.names]
    rw [addS_ne hu.1]
    exact names_in a acc hu.2 h
  | .two k s a b, acc, hu, h => by
    simp only [Tr.names]
    rw [addS_ne hu.1]
    exact names_in b _ hu.2.2 (names_in a acc hu.2.1 h)
theorem uvw_mem (n : Nat) : uvw.getD (n % 3) ⟨#[]⟩ ∈ uvw := by
  have h : n % 3 < 3 := Nat.mod_lt _ (by omega)
  rcases (show n % 3 = 0 ∨ n % 3 = 1 ∨ n % 3 = 2 by omega) with e | e | e <;> rw [e] <;> simp [uvw]
theorem drw_ok : ∀ (d deep : Nat) (ρ : Pl), (drw d deep ρ).1.ok ∧ (drw d deep ρ).1.uvw ∧ (drw d deep ρ).1.cnt + 1 ≤ 2 ^ (d + 1)
  | 0, deep, ρ => by
    simp only [drw]
    exact ⟨uvw_ok (uvw_mem _), fun _ => uvw_mem _, by simp [Tr.cnt]⟩
  | d + 1, deep, ρ => by
    have hp : 2 ^ (d + 1 + 1) = 2 * 2 ^ (d + 1) := by rw [Nat.pow_succ]; omega
    have h2 : 2 ≤ 2 ^ (d + 1) := Nat.le_trans (by decide) (Nat.pow_le_pow_right (by omega) (show 1 ≤ d + 1 by omega))
    obtain ⟨a1, a2, a3⟩ := drw_ok d (deep + 1) ρ.n
    obtain ⟨b1, b2, b3⟩ := drw_ok d (deep + 1) (drw d (deep + 1) ρ.n).2
    simp only [drw]
    split
    · exact ⟨uvw_ok (uvw_mem _), fun _ => uvw_mem _, by simp only [Tr.cnt]; omega⟩
    · split
      · exact ⟨⟨.inl rfl, empty_ok 1 (by decide)⟩, fun e => absurd e (by decide), by simp only [Tr.cnt]; omega⟩
      · split
        · exact ⟨⟨rfl, empty_ok 2 (by decide), a1⟩, ⟨by decide, a2⟩, by simp only [Tr.cnt]; omega⟩
        · have hk : ρ.v / 8 % 2 < 2 := Nat.mod_lt _ (by omega)
          refine ⟨⟨by omega, empty_ok _ (by omega), a1, b1⟩, ⟨by omega, a2, b2⟩, ?_⟩
          simp only [Tr.cnt]
          omega
/-- A drawn level is valid. -/
theorem drw_lvl (ρ : Pl) : (drw 3 2 ρ).1.ok ∧ fitsB (drw 3 2 ρ).1 = true := by
  obtain ⟨h1, h2, h3⟩ := drw_ok 3 2 ρ
  refine ⟨h1, ?_⟩
  unfold fitsB
  rw [decide_eq_true_eq]
  refine ⟨by have : (2 : Nat) ^ (3 + 1) = 16 := rfl; omega, ?_⟩
  have := names_in (drw 3 2 ρ).1 [] h2 (by simp)
  have := inU_le ((drw 3 2 ρ).1.names [])
  omega
theorem drw_valid (ρ : Pl) : lvlB ((drw 3 2 ρ).1.flat 0) = true := by
  obtain ⟨h1, h2⟩ := drw_lvl ρ
  rw [lvl_flat _ h1]
  exact h2
/-- So many drawn levels, and the place behind them. -/
def lvD : Nat → Pl → List (List Nd) × Pl
  | 0, ρ => ([], ρ)
  | n + 1, ρ => ((lvD n ρ).1 ++ [(drw 3 2 (lvD n ρ).2).1.flat 0], (drw 3 2 (lvD n ρ).2).2)
theorem lvD_len : ∀ (n : Nat) (ρ : Pl), (lvD n ρ).1.length = n
  | 0, _ => rfl
  | n + 1, ρ => by simp [lvD, lvD_len n ρ]
theorem lvD_valid : ∀ (n : Nat) (ρ : Pl), ∀ l ∈ (lvD n ρ).1, lvlB l = true
  | 0, _ => fun l hl => by simp [lvD] at hl
  | n + 1, ρ => fun l hl => by
    simp only [lvD, List.mem_append, List.mem_singleton] at hl
    rcases hl with hl | rfl
    · exact lvD_valid n ρ l hl
    · exact drw_valid _
/-- The variable that is drawn. -/
def varD (free k : Nat) : Tt := if 0 < free ∧ k < 240 then varT ((k / 12 % free : Nat) : Int) else varT ((k / 12 % 5 : Nat) : Int)
/-- The tree that is drawn so many steps above the deepest, and the place behind it. -/
def d3 : Nat → Nat → Nat → Pl → Tt × Pl
  | 0, _, free, ρ => (varD free ρ.v, ρ.n)
  | d + 1, deep, free, ρ =>
    if 7 < deep ∨ ρ.v % 12 < 3 then (varD free ρ.v, ρ.n)
    else if ρ.v % 12 = 3 then (.t0 (sortH ((drw 3 2 ρ.n).1.flat 0)), (drw 3 2 ρ.n).2)
    else if ρ.v % 12 = 4 then (.t0 (constH (names9.getD ((lvD (ρ.v / 12 % 3) ρ.n).2.v % 9) ⟨#[]⟩) (lvD (ρ.v / 12 % 3) ρ.n).1), (lvD (ρ.v / 12 % 3) ρ.n).2.n)
    else if ρ.v % 12 < 8 then (.t2 appH (d3 d (deep + 1) free ρ.n).1 (d3 d (deep + 1) free (d3 d (deep + 1) free ρ.n).2).1, (d3 d (deep + 1) free (d3 d (deep + 1) free ρ.n).2).2)
    else if ρ.v % 12 = 10 ∧ ρ.v / 12 % 3 = 0 then (.t3 (letH (short6.getD (ρ.n.v % 6) ⟨#[]⟩)) (d3 d (deep + 1) free ρ.n.n).1 (d3 d (deep + 1) free (d3 d (deep + 1) free ρ.n.n).2).1 (d3 d (deep + 1) (free + 1) (d3 d (deep + 1) free (d3 d (deep + 1) free ρ.n.n).2).2).1, (d3 d (deep + 1) (free + 1) (d3 d (deep + 1) free (d3 d (deep + 1) free ρ.n.n).2).2).2)
    else if ρ.v % 12 = 10 then (.t1 (projH (names9.getD (ρ.n.v % 9) ⟨#[]⟩) ((ρ.v / 12 % 3 : Nat) : Int)) (d3 d (deep + 1) free ρ.n.n).1, (d3 d (deep + 1) free ρ.n.n).2)
    else if ρ.v % 12 = 11 ∧ ρ.v / 12 % 2 = 0 then (.t0 (holeH ((ρ.v / 12 % 4 : Nat) : Int)), ρ.n)
    else (.t2 (bindH (5 + ((ρ.v % 2 : Nat) : Int)) ((ρ.v / 12 % 3 : Nat) : Int) (short6.getD (ρ.n.v % 6) ⟨#[]⟩)) (d3 d (deep + 1) free ρ.n.n).1 (d3 d (deep + 1) (free + 1) (d3 d (deep + 1) free ρ.n.n).2).1, (d3 d (deep + 1) (free + 1) (d3 d (deep + 1) free ρ.n.n).2).2)
/-- What holds of each node of a drawn tree. -/
def drP (h : Hd) (c : Nat) : Prop := numP h c ∧ levP h c ∧ leafP h c
theorem varD_ok (free k : Nat) (hf : free ≤ 1000) : (varD free k).all drP ∧ (varD free k).cnt = 1 := by
  have h1 : ∀ n : Nat, n ≤ 1000 → (varT (n : Int)).all drP := fun n hn => ⟨fun _ => ⟨by show (0 : Int) ≤ n; omega, by show (n : Int) ≤ 1000000; omega⟩, var_lev _, fun h => by omega⟩
  unfold varD
  split
  · rename_i h
    have : k / 12 % free < free := Nat.mod_lt _ h.1
    exact ⟨h1 _ (by omega), rfl⟩
  · have : k / 12 % 5 < 5 := Nat.mod_lt _ (by omega)
    exact ⟨h1 _ (by omega), rfl⟩
theorem nolv_dr {h : Hd} {c : Nat} (hl : h.lv = []) (hk : h.k ≠ 1) : drP h c := ⟨fun e => absurd e hk, ⟨fun l hm => by rw [hl] at hm; simp at hm, by rw [hl]; simp⟩, fun _ => hk⟩
theorem d3_ok : ∀ (d deep free : Nat) (ρ : Pl), free + d ≤ 1000 → (d3 d deep free ρ).1.all drP ∧ (d3 d deep free ρ).1.cnt + 1 ≤ 3 ^ (d + 1)
  | 0, deep, free, ρ, hf => by
    obtain ⟨h1, h2⟩ := varD_ok free ρ.v (by omega)
    simp only [d3]
    exact ⟨h1, by rw [h2]; decide⟩
  | d + 1, deep, free, ρ, hf => by
    have hp : 3 ^ (d + 1 + 1) = 3 * 3 ^ (d + 1) := by rw [Nat.pow_succ]; omega
    have h2 : 3 ≤ 3 ^ (d + 1) := Nat.le_trans (by decide) (Nat.pow_le_pow_right (by omega) (show 1 ≤ d + 1 by omega))
    obtain ⟨v1, v2⟩ := varD_ok free ρ.v (by omega)
    have ih := d3_ok d
    simp only [d3]
    split
    · exact ⟨v1, by rw [v2]; omega⟩
    · split
      · refine ⟨⟨fun e => by simp [sortH] at e, ⟨fun l hl => ?_, by simp [sortH]⟩, fun e => by omega⟩, by simp only [Tt.cnt]; omega⟩
        simp only [sortH, List.mem_singleton] at hl
        rw [hl]
        exact drw_valid _
      · split
        · have := lvD_len (ρ.v / 12 % 3) ρ.n
          have h3 : ρ.v / 12 % 3 < 3 := Nat.mod_lt _ (by omega)
          exact ⟨⟨fun e => by simp [constH] at e, ⟨fun l hl => lvD_valid _ _ l hl, by show (lvD (ρ.v / 12 % 3) ρ.n).1.length ≤ _; omega⟩, fun e => by omega⟩, by simp only [Tt.cnt]; omega⟩
        · split
          · obtain ⟨a1, a2⟩ := ih (deep + 1) free ρ.n (by omega)
            obtain ⟨b1, b2⟩ := ih (deep + 1) free (d3 d (deep + 1) free ρ.n).2 (by omega)
            exact ⟨⟨nolv_dr rfl (by decide), a1, b1⟩, by simp only [Tt.cnt]; omega⟩
          · split
            · obtain ⟨a1, a2⟩ := ih (deep + 1) free ρ.n.n (by omega)
              obtain ⟨b1, b2⟩ := ih (deep + 1) free (d3 d (deep + 1) free ρ.n.n).2 (by omega)
              obtain ⟨c1, c2⟩ := ih (deep + 1) (free + 1) (d3 d (deep + 1) free (d3 d (deep + 1) free ρ.n.n).2).2 (by omega)
              exact ⟨⟨nolv_dr rfl (by show (7 : Int) ≠ 1; decide), a1, b1, c1⟩, by simp only [Tt.cnt]; omega⟩
            · split
              · obtain ⟨a1, a2⟩ := ih (deep + 1) free ρ.n.n (by omega)
                exact ⟨⟨nolv_dr rfl (by show (8 : Int) ≠ 1; decide), a1⟩, by simp only [Tt.cnt]; omega⟩
              · split
                · exact ⟨nolv_dr rfl (by show (9 : Int) ≠ 1; decide), by simp only [Tt.cnt]; omega⟩
                · obtain ⟨a1, a2⟩ := ih (deep + 1) free ρ.n.n (by omega)
                  obtain ⟨b1, b2⟩ := ih (deep + 1) (free + 1) (d3 d (deep + 1) free ρ.n.n).2 (by omega)
                  exact ⟨⟨nolv_dr rfl (by show (5 : Int) + _ ≠ 1; omega), a1, b1⟩, by simp only [Tt.cnt]; omega⟩
end Go.Proofs.YtjkkojefpecbfaaGreat
