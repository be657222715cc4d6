/- How long a term's text gets, and the program's way through the parts of a node in brackets. No program is walked here. -/
import Derived.Test.YtcagcfhnbphggaaGreatDoorTtD
import Derived.Test.YtcagcfhnbphggaaGreatDoorRows
import Derived.WalkKit
import Derived.ProofKit
import Derived.Shelf.Strconv.Itoa3
import Derived.Ground.NamesProg
import Derived.Lib.SmallJoins
import Derived.Lib.AppendIntMem
import Derived.Shelf.Lay
namespace Go.Proofs.YtcagcfhnbphggaaGreatDoor

theorem txtL_size {l : List Nd} (h : lvlB l = true) : (txtL l).data.toList.length ≤ 3840 := by
  have hl : l.length ≤ 64 := by
    unfold lvlB at h
    rw [Bool.and_eq_true, Bool.and_eq_true, decide_eq_true_eq, decide_eq_true_eq] at h
    exact h.1.2
  rw [Array.length_toList]
  show (txtL l).size ≤ 3840
  by_cases hx : ∃ t, LvTree l t
  · obtain ⟨t, ht⟩ := hx
    rw [txtL_eq ht]
    have hc : t.it.cnt ≤ 64 := by
      have h1 := ht.2.2.2
      have h2 := it_cnt t ht.2.1
      omega
    have := It.text_size t.it (it_pos t) hc (params_short t ht.2.1)
    omega
  · unfold txtL
    rw [dif_neg hx]
    exact Nat.zero_le _
theorem dD_len {n : Int} (h : n ≤ 1000000) : (dD n).length ≤ 8 := dec_len _ (by omega)
theorem lvsT_len {ls : List (List Nd)} (h : ∀ l ∈ ls, lvlB l = true) : ∀ i, i ≤ ls.length → (lvsT ls i).length ≤ 3841 * i
  | 0, _ => by simp [lvsT]
  | i + 1, hi => by
    have h1 := lvsT_len h i (by omega)
    have h2 := txtL_size (h (ls.getD i []) (by
      rw [List.getD_eq_getElem?_getD, List.getElem?_eq_getElem (show i < ls.length by omega)]
      exact List.getElem_mem _))
    simp only [lvsT, List.length_append, List.length_cons]
    omega
theorem constT_len {td : Td} (h : NodeOk td) : (constT td).length ≤ 23100 := by
  have h1 := lvsT_len h.lev td.lv.length (Nat.le_refl _)
  have h2 := h.lvs
  have h3 : td.s.data.toList.length ≤ 40 := by rw [Array.length_toList]; exact h.str
  unfold constT
  rw [List.length_append, List.length_append]
  split <;> simp only [List.length_cons, List.length_nil] <;> omega
theorem signT_len (k : Int) : (signT k).length ≤ 1 := by
  unfold signT
  split
  · simp
  · split
    · simp
    · split
      · simp
      · split <;> simp
theorem headT_len {td : Td} (h : NodeOk td) : (headT td).length ≤ 100 := by
  have h1 := dD_len (n := td.m) (by have := h.mode; omega)
  have h2 := dD_len (n := td.n) (by have := h.num; omega)
  have h3 : td.s.data.toList.length ≤ 40 := by rw [Array.length_toList]; exact h.str
  have h4 := signT_len td.k
  unfold headT
  split
  · split <;> simp only [List.length_append, List.length_cons, List.length_nil] <;> omega
  · split
    · simp only [List.length_append, List.length_cons, List.length_nil]; omega
    · simp
theorem kidsT_len {g : Nat → List UInt8 → List UInt8} {C : Nat} (hg : ∀ p out, (g p out).length ≤ max out.length C) (ks : List Int) (out : List UInt8) : ∀ i, (kidsT g ks i out).length ≤ max out.length C + i
  | 0 => by simp only [kidsT]; omega
  | i + 1 => by
    have h1 := kidsT_len hg ks out i
    have h2 := hg (ks.getD i 0).toNat (kidsT g ks i out ++ (if i = 0 then [] else [32]))
    have h3 : (if i = 0 then [] else [(32 : UInt8)]).length ≤ 1 := by split <;> simp
    rw [List.length_append] at h2
    simp only [kidsT]
    omega
theorem wrT_len {ts : List Td} (h : ∀ i (hi : i < ts.length), NodeOk ts[i]) : ∀ f p out, (wrT ts f p out).length ≤ max out.length (440000 + 5 * f)
  | 0, p, out => by simp only [wrT]; omega
  | f + 1, p, out => by
    unfold wrT
    by_cases hb : 400000 < out.length
    · rw [if_pos hb]; omega
    rw [if_neg hb]
    by_cases hp : p < ts.length
    · have e : ts.getD p ⟨0, 0, 0, ⟨#[]⟩, [], []⟩ = ts[p] := by rw [List.getD_eq_getElem?_getD, List.getElem?_eq_getElem hp]; rfl
      rw [e]
      have hn := h p hp
      generalize ts[p] = td at hn
      have h1 := dD_len (n := td.n) (by have := hn.num; omega)
      unfold nodeT
      split
      · simp only [List.length_append, List.length_cons]; omega
      · split
        · simp only [List.length_append, List.length_cons]; omega
        · split
          · next _ _ h2 =>
            have h3 := hn.uni h2
            have h4 := txtL_size (hn.lev (td.lv.getD 0 []) (by
              rw [List.getD_eq_getElem?_getD, List.getElem?_eq_getElem (show 0 < td.lv.length by omega)]
              exact List.getElem_mem _))
            simp only [List.length_append, List.length_cons]; omega
          · split
            · have := constT_len hn
              simp only [List.length_append]; omega
            · have h5 := kidsT_len (C := 440000 + 5 * f) (fun p out => wrT_len h f p out) td.kids (out ++ headT td) td.kids.length
              have h6 := headT_len hn
              have h7 : td.kids.length ≤ 3 := by
                have := hn.kids
                have := tkidsN_cases td.k
                omega
              rw [List.length_append] at h5
              simp only [List.length_append, List.length_cons, List.length_nil]
              omega
    · have e : ts.getD p ⟨0, 0, 0, ⟨#[]⟩, [], []⟩ = ⟨0, 0, 0, ⟨#[]⟩, [], []⟩ := by rw [List.getD_eq_getElem?_getD, List.getElem?_eq_none (by omega)]; rfl
      rw [e]
      unfold nodeT
      simp [kidsT, headT]
      omega
/-- The parts of a node in brackets. -/
def partsK (k : Int) : List UInt8 := if k = 4 then [107, 107] else if k = 5 ∨ k = 6 then [83, 77, 107, 107] else if k = 7 then [83, 107, 107, 107] else if k = 8 then [83, 78, 107] else []
def cntK (ps : List UInt8) (i : Nat) : Nat := ((ps.take i).filter (fun q => q == 107)).length
/-- The text behind i parts. -/
def partT (td : Td) (g : Nat → List UInt8 → List UInt8) (ps : List UInt8) : Nat → List UInt8 → List UInt8
  | 0, out => out
  | i + 1, out =>
    if ps.getD i 0 = 83 then partT td g ps i out ++ (if 0 < i ∨ signT td.k ≠ [] then [32] else []) ++ td.s.data.toList
    else if ps.getD i 0 = 77 then partT td g ps i out ++ (if 0 < i ∨ signT td.k ≠ [] then [32] else []) ++ dD td.m
    else if ps.getD i 0 = 78 then partT td g ps i out ++ (if 0 < i ∨ signT td.k ≠ [] then [32] else []) ++ dD td.n
    else g (td.kids.getD (cntK ps i) 0).toNat (partT td g ps i out ++ (if 0 < i ∨ signT td.k ≠ [] then [32] else []))
theorem kids1 {l : List Int} (h : l.length = 1) : ∃ a, l = [a] := by
  match l, h with
  | [a], _ => exact ⟨a, rfl⟩
theorem kids2 {l : List Int} (h : l.length = 2) : ∃ a b, l = [a, b] := by
  match l, h with
  | [a, b], _ => exact ⟨a, b, rfl⟩
theorem kids3 {l : List Int} (h : l.length = 3) : ∃ a b c, l = [a, b, c] := by
  match l, h with
  | [a, b, c], _ => exact ⟨a, b, c, rfl⟩
theorem part_all {td : Td} (h : NodeOk td) (hk : 4 ≤ td.k ∧ td.k ≤ 8) (g : Nat → List UInt8 → List UInt8) (out : List UInt8) :
    partT td g (partsK td.k) (partsK td.k).length (out ++ 91 :: signT td.k) = kidsT g td.kids td.kids.length (out ++ headT td) := by
  obtain ⟨k, n, m, s, lv, kids⟩ := td
  have hl := h.kids
  simp only at hk hl ⊢
  have hkk : k = 4 ∨ k = 5 ∨ k = 6 ∨ k = 7 ∨ k = 8 := by omega
  rcases hkk with rfl | rfl | rfl | rfl | rfl
  · obtain ⟨a, b, rfl⟩ := kids2 (show kids.length = 2 by have : tkidsN 4 = 2 := by decide
                                                         omega)
    simp [partT, partsK, kidsT, headT, signT, cntK]
  · obtain ⟨a, b, rfl⟩ := kids2 (show kids.length = 2 by have : tkidsN 5 = 2 := by decide
                                                         omega)
    simp [partT, partsK, kidsT, headT, signT, cntK]
  · obtain ⟨a, b, rfl⟩ := kids2 (show kids.length = 2 by have : tkidsN 6 = 2 := by decide
                                                         omega)
    simp [partT, partsK, kidsT, headT, signT, cntK]
  · obtain ⟨a, b, c, rfl⟩ := kids3 (show kids.length = 3 by have : tkidsN 7 = 3 := by decide
                                                            omega)
    simp [partT, partsK, kidsT, headT, signT, cntK]
  · obtain ⟨a, rfl⟩ := kids1 (show kids.length = 1 by have : tkidsN 8 = 1 := by decide
                                                      omega)
    simp [partT, partsK, kidsT, headT, signT, cntK]
end Go.Proofs.YtcagcfhnbphggaaGreatDoor

/- strconv.Itoa at every number, as the library's shelf has it, laid at this program. -/
namespace Go.Proofs
open Go.Shelf Go.Lib Go.Sort Go.RowKit
shelf_lay LaysM.n171 Nm 171 at Tryz as Tryz.laysItoa
end Go.Proofs
namespace Go.Proofs.YtcagcfhnbphggaaGreatDoor
open Go.ChangeShapes Go.WideShapes Go.ChangeAt Go.RowKit Go.Sort Go.Shelf Go.Lib

theorem itoaN_any (i : Nat) (h : i < 100000000) (w : World) (htab : Lib.TabIs Tryz.prog w "internal/strconv.uint64pow10" .u64 Lib.pow10Tab) :
    Calls Tryz.prog 54 #[.int .i64 i] w fun e w' => e = .returned (.string ⟨(Lib.decDigits i).toArray⟩) ∧ Below w.heap.size w w' := by
  have h2 := Any.strconv_Itoa Tryz.laysItoa (i : Int) (by omega) (by omega) w htab
  rw [Lib.itoa_nonneg] at h2
  change Calls Tryz.prog 54 _ _ _ at h2
  refine h2.mono ?_
  rintro e w' ⟨rfl, k, os, rfl⟩
  exact ⟨rfl, Go.Lib.below_grow _ w (Nat.le_refl _) k os⟩
end Go.Proofs.YtcagcfhnbphggaaGreatDoor
