/- What the specification's LevelSign answers: -1 where the level is not valid, else when its number is 0. -/
import Derived.Test.YtgomimhelgjddaaGreatTriesW
import Derived.Test.YtgomimhelgjddaaGreatSpec
import Derived.Test.YtgomimhelgjddaaGreatSign
namespace Go.Proofs.YtgomimhelgjddaaGreat
open Go.ChangeShapes Go.WideShapes Go.ChangeAt Go.RowKit

theorem hasB_app {a b : List ByteArray} {x : ByteArray} (h : hasB a x = true) : hasB (a ++ b) x = true := by
  unfold hasB at h ⊢
  rw [List.any_append, h]; rfl
theorem addS_has {ss : List ByteArray} {k : Int} {s x : ByteArray} (h : hasB ss x = true) : hasB (addS ss k s) x = true := by
  unfold addS; split
  · exact hasB_app h
  · exact h
theorem addS_own (ss : List ByteArray) (s : ByteArray) : hasB (addS ss 5 s) s = true := by
  unfold addS
  by_cases h : hasB ss s = false
  · rw [if_pos ⟨rfl, h⟩]; unfold hasB; simp
  · rw [if_neg (by simp [h])]; simpa using h
theorem names_has : ∀ (t : Tr) (ss : List ByteArray) (x : ByteArray), hasB ss x = true → hasB (t.names ss) x = true
  | .leaf _ _, _, _, h => addS_has h
  | .one _ _ a, _, x, h => names_has a _ x (addS_has h)
  | .two _ _ a b, _, x, h => names_has b _ x (names_has a _ x (addS_has h))
theorem names_params : ∀ (t : Tr) (ss : List ByteArray), ∀ x ∈ t.params, hasB (t.names ss) x = true
  | .leaf k s, ss, x, hx => by
    simp only [Tr.params] at hx
    split at hx
    · rename_i h5
      simp at hx
      subst hx h5
      exact addS_own ss x
    · simp at hx
  | .one k s a, ss, x, hx => names_params a _ x hx
  | .two k s a b, ss, x, hx => by
    simp only [Tr.params, List.mem_append] at hx
    rcases hx with hx | hx
    · exact names_has b _ x (names_params a _ x hx)
    · exact names_params b _ x hx

theorem countP_snoc {α : Type} (p : α → Bool) (l : List α) (k : Nat) (h : k < l.length) : (l.take (k + 1)).countP p = (l.take k).countP p + (if p l[k] then 1 else 0) := by
  rw [List.take_succ_eq_append_getElem h, List.countP_append]
  simp [List.countP_cons]

/-- What a valid level gives: its tree. -/
def OkTree (ns : List Nd) (t : Tr) : Prop := ns = t.flat 0 ∧ t.ok ∧ t.names [] = namesOf ns ∧ t.cnt = ns.length ∧ ns.length ≤ 64 ∧ (namesOf ns).length ≤ 6
theorem lvl_bounds {ns : List Nd} (h : lvlB ns = true) : ns.length ≤ 64 ∧ (namesOf ns).length ≤ 6 := by
  unfold lvlB at h
  rw [Bool.and_eq_true, Bool.and_eq_true, decide_eq_true_eq, decide_eq_true_eq] at h
  refine ⟨h.1.2, ?_⟩
  have h2 := h.2
  split at h2
  · rw [Bool.and_eq_true, decide_eq_true_eq, decide_eq_true_eq] at h2; exact h2.2
  · cases h2
end Go.Proofs.YtgomimhelgjddaaGreat

/- Plain facts: when one level's number is at most another's for all values: by the rows that the specification tries, and by the program's cases. No program is named here. -/
namespace Go.Proofs.YtgomimhelgjddaaGreat

/-- A level within a case: its least number, and each parameter with what stands on top of it. -/
structure Sums where
  least : Int
  tops : Nat → Int
def noS : Sums := ⟨0, fun _ => -1⟩
def Sums.plus (S : Sums) (n : Int) : Sums := ⟨S.least + n, fun i => if 0 ≤ S.tops i then S.tops i + n else S.tops i⟩
def Sums.join (S R : Sums) : Sums := ⟨if R.least < S.least then S.least else R.least, fun i => if R.tops i < S.tops i then S.tops i else R.tops i⟩
def parS (names : List ByteArray) (val : Nat → Int) (s : ByteArray) : Sums :=
  if atS names s < 0 ∨ val (atS names s).toNat = 1 then noS else ⟨if val (atS names s).toNat = 2 then 1 else 0, fun j => if j = (atS names s).toNat then 0 else -1⟩
def It.sums (names : List ByteArray) (val : Nat → Int) : It → Sums
  | .zero => noS
  | .succ n x => (x.sums names val).plus n
  | .max a b => (a.sums names val).join (b.sums names val)
  | .imax a b => if (b.sums names val).least = 0 then noS else (a.sums names val).join (b.sums names val)
  | .param s => parS names val s
/-- Each parameter is 0 or positive in the case. -/
def AllDec (names : List ByteArray) (val : Nat → Int) (t : It) : Prop := ∀ s ∈ t.params, atS names s < 0 ∨ val (atS names s).toNat = 1 ∨ val (atS names s).toNat = 2
def Dec (names : List ByteArray) (val : Nat → Int) : It → Prop
  | .zero => True
  | .succ _ x => Dec names val x
  | .max a b => Dec names val a ∧ Dec names val b
  | .imax a b => Dec names val a ∧ AllDec names val b
  | .param _ => True
theorem dec_all {names : List ByteArray} {val : Nat → Int} : ∀ {t : It}, AllDec names val t → Dec names val t
  | .zero, _ => trivial
  | .succ _ x, h => dec_all (t := x) h
  | .max a b, h => ⟨dec_all (fun s hs => h s (by simp [It.params, hs])), dec_all (fun s hs => h s (by simp [It.params, hs]))⟩
  | .imax a b, h => ⟨dec_all (fun s hs => h s (by simp [It.params, hs])), fun s hs => h s (by simp [It.params, hs])⟩
  | .param _, _ => trivial
theorem sums_bd (names : List ByteArray) (val : Nat → Int) : ∀ t : It, 0 ≤ (t.sums names val).least ∧ (t.sums names val).least ≤ t.cnt ∧ ∀ i, -1 ≤ (t.sums names val).tops i ∧ (t.sums names val).tops i ≤ t.cnt
  | .zero => ⟨by simp [It.sums, noS], by simp [It.sums, noS, It.cnt], fun i => by simp [It.sums, noS, It.cnt]⟩
  | .succ n x => by
    obtain ⟨h1, h2, h3⟩ := sums_bd names val x
    refine ⟨?_, ?_, fun i => ?_⟩
    · simp only [It.sums, Sums.plus]; omega
    · simp only [It.sums, Sums.plus, It.cnt]; omega
    · have := h3 i
      simp only [It.sums, Sums.plus, It.cnt]; split <;> omega
  | .max a b => by
    obtain ⟨h1, h2, h3⟩ := sums_bd names val a
    obtain ⟨k1, k2, k3⟩ := sums_bd names val b
    refine ⟨?_, ?_, fun i => ?_⟩
    · simp only [It.sums, Sums.join]; split <;> omega
    · simp only [It.sums, Sums.join, It.cnt]; split <;> omega
    · have := h3 i
      have := k3 i
      simp only [It.sums, Sums.join, It.cnt]; split <;> omega
  | .imax a b => by
    obtain ⟨h1, h2, h3⟩ := sums_bd names val a
    obtain ⟨k1, k2, k3⟩ := sums_bd names val b
    simp only [It.sums]
    split
    · exact ⟨by simp [noS], by simp [noS, It.cnt]; omega, fun i => by simp [noS, It.cnt]; omega⟩
    · refine ⟨?_, ?_, fun i => ?_⟩
      · simp only [Sums.join]; split <;> omega
      · simp only [Sums.join, It.cnt]; split <;> omega
      · have := h3 i
        have := k3 i
        simp only [Sums.join, It.cnt]; split <;> omega
  | .param s => by
    simp only [It.sums, parS]
    split
    · exact ⟨by simp [noS], by simp [noS, It.cnt], fun i => by simp [noS, It.cnt]⟩
    · refine ⟨?_, ?_, fun i => ?_⟩
      · dsimp only; split <;> omega
      · dsimp only [It.cnt]; split <;> omega
      · dsimp only [It.cnt]; split <;> omega
theorem tops_least (names : List ByteArray) (val : Nat → Int) : ∀ t : It, AllDec names val t → ∀ i, 0 ≤ (t.sums names val).tops i → 1 ≤ (t.sums names val).least
  | .zero, _, i, h => by simp [It.sums, noS] at h
  | .succ n x, hd, i, h => by
    have hb := sums_bd names val x
    simp only [It.sums, Sums.plus] at h ⊢
    by_cases e : 0 ≤ (x.sums names val).tops i
    · have := tops_least names val x hd i e; omega
    · rw [if_neg e] at h; omega
  | .max a b, hd, i, h => by
    have h1 := tops_least names val a (fun s hs => hd s (by simp [It.params, hs])) i
    have h2 := tops_least names val b (fun s hs => hd s (by simp [It.params, hs])) i
    have b1 := (sums_bd names val a).1
    have b2 := (sums_bd names val b).1
    simp only [It.sums, Sums.join] at h ⊢
    by_cases e : (b.sums names val).tops i < (a.sums names val).tops i
    · rw [if_pos e] at h
      have := h1 h
      split <;> omega
    · rw [if_neg e] at h
      have := h2 h
      split <;> omega
  | .imax a b, hd, i, h => by
    have h1 := tops_least names val a (fun s hs => hd s (by simp [It.params, hs])) i
    have h2 := tops_least names val b (fun s hs => hd s (by simp [It.params, hs])) i
    have b1 := (sums_bd names val a).1
    have b2 := (sums_bd names val b).1
    simp only [It.sums] at h ⊢
    by_cases z : (b.sums names val).least = 0
    · rw [if_pos z] at h; simp [noS] at h
    · rw [if_neg z] at h ⊢
      simp only [Sums.join] at h ⊢
      split <;> omega
  | .param s, hd, i, h => by
    simp only [It.sums, parS] at h ⊢
    by_cases e : atS names s < 0 ∨ val (atS names s).toNat = 1
    · rw [if_pos e] at h; simp [noS] at h
    · rw [if_neg e]
      have := hd s (by simp [It.params])
      dsimp only
      rw [if_pos (by omega)]; omega

/-- m is the greatest of the least number and of the tops with their values. -/
def IsEv (S : Sums) (g : Nat → Int) (m : Int) : Prop := S.least ≤ m ∧ (∀ i, 0 ≤ S.tops i → S.tops i + g i ≤ m) ∧ (m = S.least ∨ ∃ i, 0 ≤ S.tops i ∧ m = S.tops i + g i)
theorem IsEv.join {S R : Sums} {g : Nat → Int} {m k : Int} (h : IsEv S g m) (h' : IsEv R g k) : IsEv (S.join R) g (if k < m then m else k) := by
  obtain ⟨h1, h2, h3⟩ := h
  obtain ⟨k1, k2, k3⟩ := h'
  refine ⟨?_, ?_, ?_⟩
  · simp only [Sums.join]; split <;> split <;> omega
  · intro i hi
    simp only [Sums.join] at hi ⊢
    by_cases e : R.tops i < S.tops i
    · rw [if_pos e] at hi ⊢
      have := h2 i hi; split <;> omega
    · rw [if_neg e] at hi ⊢
      have := k2 i hi; split <;> omega
  · by_cases e : k < m
    · rw [if_pos e]
      rcases h3 with h3 | ⟨i, hi, h3⟩
      · left; simp only [Sums.join]; rw [if_pos (by omega)]; exact h3
      · right
        refine ⟨i, ?_, ?_⟩
        · simp only [Sums.join]; split <;> omega
        · simp only [Sums.join]
          by_cases q : R.tops i < S.tops i
          · rw [if_pos q]; exact h3
          · rw [if_neg q]
            have := k2 i (by omega); omega
    · rw [if_neg e]
      rcases k3 with k3 | ⟨i, hi, k3⟩
      · left; simp only [Sums.join]; split <;> omega
      · right
        refine ⟨i, ?_, ?_⟩
        · simp only [Sums.join]; split <;> omega
        · simp only [Sums.join]
          by_cases q : R.tops i < S.tops i
          · rw [if_pos q]
            have := h2 i (by omega); omega
          · rw [if_neg q]; exact k3
/-- The values fit the case. -/
structure Fit (names : List ByteArray) (val : Nat → Int) (f : ByteArray → Int) (g : Nat → Int) : Prop where
  pos : ∀ s, 0 ≤ f s
  out : ∀ s, atS names s < 0 → f s = 0
  zero : ∀ s, 0 ≤ atS names s → val (atS names s).toNat = 1 → f s = 0
  one : ∀ s, 0 ≤ atS names s → val (atS names s).toNat = 2 → 1 ≤ f s
  get : ∀ s, 0 ≤ atS names s → g (atS names s).toNat = f s
theorem num_nn (f : ByteArray → Int) (hf : ∀ s, 0 ≤ f s) : ∀ t : It, 0 ≤ t.num f
  | .zero => by simp [It.num]
  | .succ n x => by have := num_nn f hf x; simp only [It.num]; omega
  | .max a b => by have := num_nn f hf a; have := num_nn f hf b; simp only [It.num]; split <;> omega
  | .imax a b => by
    have := num_nn f hf a
    have := num_nn f hf b
    simp only [It.num]; split
    · omega
    · split <;> omega
  | .param s => hf s
theorem ev_num {names : List ByteArray} {val : Nat → Int} {f : ByteArray → Int} {g : Nat → Int} (F : Fit names val f g) : ∀ t : It, Dec names val t → IsEv (t.sums names val) g (t.num f)
  | .zero, _ => ⟨by simp [It.sums, noS, It.num], fun i h => by simp [It.sums, noS] at h, .inl (by simp [It.sums, noS, It.num])⟩
  | .succ n x, hd => by
    obtain ⟨h1, h2, h3⟩ := ev_num F x hd
    refine ⟨?_, ?_, ?_⟩
    · simp only [It.sums, Sums.plus, It.num]; omega
    · intro i hi
      simp only [It.sums, Sums.plus, It.num] at hi ⊢
      by_cases e : 0 ≤ (x.sums names val).tops i
      · rw [if_pos e]; have := h2 i e; omega
      · rw [if_neg e] at hi; omega
    · simp only [It.sums, Sums.plus, It.num]
      rcases h3 with h3 | ⟨i, hi, h3⟩
      · left; omega
      · right; exact ⟨i, by rw [if_pos hi]; omega, by rw [if_pos hi]; omega⟩
  | .max a b, hd => (ev_num F a hd.1).join (ev_num F b hd.2)
  | .imax a b, hd => by
    have ea := ev_num F a hd.1
    have eb := ev_num F b (dec_all hd.2)
    have bb := (sums_bd names val b).1
    simp only [It.sums, It.num]
    by_cases z : (b.sums names val).least = 0
    · have hz : b.num f = 0 := by
        rcases eb.2.2 with h | ⟨i, hi, _⟩
        · omega
        · have := tops_least names val b hd.2 i hi; omega
      rw [if_pos z, if_pos hz]
      exact ⟨by simp [noS], fun i h => by simp [noS] at h, .inl rfl⟩
    · have hz : b.num f ≠ 0 := by have := eb.1; omega
      rw [if_neg z, if_neg hz]
      exact ea.join eb
  | .param s, _ => by
    simp only [It.sums, It.num, parS]
    by_cases e : atS names s < 0
    · rw [if_pos (.inl e)]
      have := F.out s e
      exact ⟨by simp [noS]; omega, fun i h => by simp [noS] at h, .inl (by simp [noS]; omega)⟩
    · have e' : 0 ≤ atS names s := by omega
      by_cases e1 : val (atS names s).toNat = 1
      · rw [if_pos (.inr e1)]
        have := F.zero s e' e1
        exact ⟨by simp [noS]; omega, fun i h => by simp [noS] at h, .inl (by simp [noS]; omega)⟩
      · rw [if_neg (by omega)]
        have hg := F.get s e'
        have hp := F.pos s
        refine ⟨?_, ?_, ?_⟩
        · dsimp only
          by_cases e2 : val (atS names s).toNat = 2
          · rw [if_pos e2]; exact F.one s e' e2
          · rw [if_neg e2]; exact hp
        · intro i hi
          dsimp only at hi ⊢
          by_cases q : i = (atS names s).toNat
          · rw [if_pos q, q, hg]; omega
          · rw [if_neg q] at hi; omega
        · right
          exact ⟨(atS names s).toNat, by simp, by simp [hg]⟩

/-- A parameter stands in the second part of an imax. -/
def hasP (s : ByteArray) : It → Bool
  | .zero => false
  | .succ _ x => hasP s x
  | .max a b => hasP s a || hasP s b
  | .imax a b => hasP s a || hasP s b
  | .param r => decide (r = s)
def decP (s : ByteArray) : It → Bool
  | .zero => false
  | .succ _ x => decP s x
  | .max a b => decP s a || decP s b
  | .imax a b => decP s a || hasP s b
  | .param _ => false
theorem hasP_in {s : ByteArray} : ∀ {t : It}, s ∈ t.params → hasP s t = true
  | .zero, h => by simp [It.params] at h
  | .succ _ x, h => hasP_in (t := x) h
  | .max a b, h => by
    simp only [It.params, List.mem_append] at h
    simp only [hasP]
    rcases h with h | h
    · rw [hasP_in h]; rfl
    · rw [hasP_in h]; simp
  | .imax a b, h => by
    simp only [It.params, List.mem_append] at h
    simp only [hasP]
    rcases h with h | h
    · rw [hasP_in h]; rfl
    · rw [hasP_in h]; simp
  | .param r, h => by simp [It.params] at h; simp [hasP, h]
theorem dec_of {names : List ByteArray} {val : Nat → Int} : ∀ {t : It}, (∀ s, decP s t = true → atS names s < 0 ∨ val (atS names s).toNat = 1 ∨ val (atS names s).toNat = 2) → Dec names val t
  | .zero, _ => trivial
  | .succ _ x, h => dec_of (t := x) h
  | .max a b, h => ⟨dec_of (fun s hs => h s (by simp [decP, hs])), dec_of (fun s hs => h s (by simp [decP, hs]))⟩
  | .imax a b, h => ⟨dec_of (fun s hs => h s (by simp [decP, hs])), fun s hs => h s (by simp [decP, hasP_in hs])⟩
  | .param _, _ => trivial
theorem tops_idx (names : List ByteArray) (val : Nat → Int) : ∀ (t : It) (i : Nat), 0 ≤ (t.sums names val).tops i → i < names.length ∧ val i ≠ 1
  | .zero, i, h => by simp [It.sums, noS] at h
  | .succ n x, i, h => by
    simp only [It.sums, Sums.plus] at h
    by_cases e : 0 ≤ (x.sums names val).tops i
    · exact tops_idx names val x i e
    · rw [if_neg e] at h; omega
  | .max a b, i, h => by
    simp only [It.sums, Sums.join] at h
    split at h
    · exact tops_idx names val a i h
    · exact tops_idx names val b i h
  | .imax a b, i, h => by
    simp only [It.sums] at h
    split at h
    · simp [noS] at h
    · simp only [Sums.join] at h
      split at h
      · exact tops_idx names val a i h
      · exact tops_idx names val b i h
  | .param s, i, h => by
    simp only [It.sums, parS] at h
    split at h
    · simp [noS] at h
    · rename_i e
      dsimp only at h
      split at h
      · rename_i ei
        have e0 : 0 ≤ atS names s := by omega
        have hm := atS_mem names s
        rw [decide_eq_true e0] at hm
        have := (atS_lt names s hm.symm).2
        exact ⟨by omega, by rw [ei]; omega⟩
      · omega
theorem tops_low (names : List ByteArray) (val : Nat → Int) : ∀ (t : It) (i : Nat), (t.sums names val).tops i + (if val i = 2 then 1 else 0) ≤ (t.sums names val).least
  | .zero, i => by simp [It.sums, noS]; split <;> omega
  | .succ n x, i => by
    have := tops_low names val x i
    have := (sums_bd names val x).2.2 i
    simp only [It.sums, Sums.plus]; split <;> omega
  | .max a b, i => by
    have := tops_low names val a i
    have := tops_low names val b i
    simp only [It.sums, Sums.join]; split <;> split <;> omega
  | .imax a b, i => by
    have := tops_low names val a i
    have := tops_low names val b i
    simp only [It.sums]; split
    · simp [noS]; split <;> omega
    · simp only [Sums.join]; split <;> split <;> omega
  | .param s, i => by
    simp only [It.sums, parS]; split
    · simp [noS]; split <;> omega
    · dsimp only
      by_cases e : i = (atS names s).toNat
      · rw [if_pos e, e]; split <;> omega
      · rw [if_neg e]; split <;> split <;> omega
theorem weigh_mono {f h : ByteArray → Int} (hf : ∀ s, 0 ≤ f s) (hh : ∀ s, 0 ≤ h s) : ∀ t : Tr, (∀ s ∈ t.params, f s ≤ h s) → t.ok → t.weigh f ≤ t.weigh h
  | .leaf k s, hs, hok => by
    simp only [Tr.weigh]
    rcases hok.1 with rfl | rfl
    · simp
    · simp; exact hs s (by simp [Tr.params])
  | .one k s a, hs, hok => by have := weigh_mono hf hh a hs hok.2.2; simp only [Tr.weigh]; omega
  | .two k s a b, hs, hok => by
    have h1 := weigh_mono hf hh a (fun s hx => hs s (by simp [Tr.params, hx])) hok.2.2.1
    have h2 := weigh_mono hf hh b (fun s hx => hs s (by simp [Tr.params, hx])) hok.2.2.2
    have n1 := weigh_nn f hf a
    have n2 := weigh_nn f hf b
    have n3 := weigh_nn h hh a
    have n4 := weigh_nn h hh b
    simp only [Tr.weigh, joinN]
    split <;> split <;> (try split) <;> (try split) <;> omega

/-- A number with given bits. -/
theorem bits_num : ∀ (bs : List Bool), ∃ z, z < 2 ^ bs.length ∧ ∀ k (h : k < bs.length), inSet z k = bs[k]
  | [] => ⟨0, by simp, fun k h => by simp at h⟩
  | b :: bs => by
    obtain ⟨z, hz, hb⟩ := bits_num bs
    refine ⟨b.toNat + 2 * z, ?_, fun k h => ?_⟩
    · simp only [List.length_cons, Nat.pow_succ]
      cases b <;> simp <;> omega
    · cases k with
      | zero => cases b <;> simp [inSet] <;> omega
      | succ k =>
        have h2 := hb k (by simpa using h)
        simp only [List.getElem_cons_succ]
        rw [← h2]
        unfold inSet
        have e : (b.toNat + 2 * z) / 2 ^ (k + 1) = z / 2 ^ k := by
          have p : 2 ^ (k + 1) = 2 * 2 ^ k := by rw [Nat.pow_succ, Nat.mul_comm]
          rw [p, ← Nat.div_div_eq_div_mul]
          congr 1
          cases b <;> simp <;> omega
        rw [e]

/-- What is supposed of the parameters in the case z: nothing (0), that they are 0 (1), that they are positive (2). -/
def valTo (ds : List Nat) (z : Nat) : Nat → Nat → Int
  | 0, _ => 0
  | k + 1, i => if i = ds.getD k 0 then (if inSet z k then 1 else 2) else valTo ds z k i
theorem valTo_cases (ds : List Nat) (z : Nat) : ∀ k i, k ≤ ds.length → (i ∈ ds.take k → valTo ds z k i = 1 ∨ valTo ds z k i = 2) ∧ (i ∉ ds.take k → valTo ds z k i = 0)
  | 0, i, _ => by simp [valTo]
  | k + 1, i, hk => by
    have ih := valTo_cases ds z k i (by omega)
    have hl : k < ds.length := by omega
    rw [List.take_succ_eq_append_getElem hl]
    have e : ds.getD k 0 = ds[k] := by rw [List.getD_eq_getElem?_getD, List.getElem?_eq_getElem hl, Option.getD_some]
    simp only [valTo, e, List.mem_append, List.mem_singleton]
    by_cases h : i = ds[k]
    · rw [if_pos h]
      exact ⟨fun _ => by split <;> simp, fun hn => absurd (.inr h) hn⟩
    · rw [if_neg h]
      exact ⟨fun hm => ih.1 (hm.resolve_right h), fun hn => ih.2 (fun hm => hn (.inl hm))⟩
theorem valTo_bits (ds : List Nat) (z : Nat) (b : Nat → Bool) (hb : ∀ k (h : k < ds.length), inSet z k = b ds[k]) : ∀ k i, k ≤ ds.length → i ∈ ds.take k → valTo ds z k i = if b i then 1 else 2
  | 0, i, _, hi => by simp at hi
  | k + 1, i, hk, hi => by
    have hl : k < ds.length := by omega
    rw [List.take_succ_eq_append_getElem hl, List.mem_append, List.mem_singleton] at hi
    have e : ds.getD k 0 = ds[k] := by rw [List.getD_eq_getElem?_getD, List.getElem?_eq_getElem hl, Option.getD_some]
    simp only [valTo, e]
    by_cases h : i = ds[k]
    · rw [if_pos h, hb k hl, h]
    · rw [if_neg h]
      exact valTo_bits ds z b hb k i (by omega) (hi.resolve_right h)

theorem addS_pre (ss : List ByteArray) (k : Int) (s : ByteArray) : ∃ l, addS ss k s = ss ++ l := by
  unfold addS; split
  · exact ⟨[s], rfl⟩
  · exact ⟨[], by simp⟩
theorem names_pre : ∀ (t : Tr) (ss : List ByteArray), ∃ l, t.names ss = ss ++ l
  | .leaf k s, ss => addS_pre ss k s
  | .one k s a, ss => by
    obtain ⟨l0, h0⟩ := addS_pre ss k s
    obtain ⟨l, h⟩ := names_pre a (addS ss k s)
    exact ⟨l0 ++ l, by simp only [Tr.names]; rw [h, h0]; simp⟩
  | .two k s a b, ss => by
    obtain ⟨l0, h0⟩ := addS_pre ss k s
    obtain ⟨l, h⟩ := names_pre a (addS ss k s)
    obtain ⟨l2, h2⟩ := names_pre b (a.names (addS ss k s))
    exact ⟨l0 ++ l ++ l2, by simp only [Tr.names]; rw [h2, h, h0]; simp⟩
theorem atS_pre {a b : List ByteArray} {s : ByteArray} (h : 0 ≤ atS a s) : atS (a ++ b) s = atS a s := by
  unfold atS at h ⊢
  split at h
  · rename_i i hi
    rw [List.findIdx?_append, hi]; rfl
  · omega
theorem atS_post {a b : List ByteArray} {s : ByteArray} (h : atS a s < 0) (h2 : 0 ≤ atS (a ++ b) s) : a.length ≤ (atS (a ++ b) s).toNat := by
  have hm := atS_mem (a ++ b) s
  rw [decide_eq_true h2] at hm
  unfold atS at h h2 ⊢
  split at h
  · omega
  · rename_i hn
    rw [List.findIdx?_append, hn]
    cases e : b.findIdx? (fun x => decide (x = s)) with
    | none => rw [List.findIdx?_append, hn, e] at h2; simp at h2
    | some j => simp; omega

/-- The places of the parameters that decide whether some imax is 0. -/
def decideds (names : List ByteArray) (x y : It) : Nat → List Nat
  | 0 => []
  | k + 1 => decideds names x y k ++ (if decP (names.getD k default) x || decP (names.getD k default) y then [k] else [])
theorem decideds_in {names : List ByteArray} {x y : It} {k i : Nat} (hi : i < k) (h : (decP (names.getD i default) x || decP (names.getD i default) y) = true) : i ∈ decideds names x y k := by
  induction k with
  | zero => omega
  | succ k ih =>
    simp only [decideds, List.mem_append]
    by_cases e : i = k
    · subst e; right; rw [if_pos h]; simp
    · left; exact ih (by omega)
def leqS (S R : Sums) : Prop := (∀ i, i < 6 → S.tops i ≤ R.tops i) ∧ S.least ≤ R.least
theorem atS_get {names : List ByteArray} {s : ByteArray} (h : 0 ≤ atS names s) : names.getD (atS names s).toNat default = s := by
  unfold atS at h ⊢
  split at h
  · rename_i i hi
    rw [List.findIdx?_eq_some_iff_getElem] at hi
    obtain ⟨h1, h2, _⟩ := hi
    simp at h2
    simp [List.getD_eq_getElem?_getD, h1, h2]
  · omega

section
variable {t1 t2 : Tr} (o1 : t1.ok) (o2 : t2.ok) (c2 : t2.cnt ≤ 64) {names all : List ByteArray} (hn6 : names.length ≤ 6) (hpre : ∃ l, all = names ++ l) (p1 : ∀ s ∈ t1.params, hasB names s = true) (p2 : ∀ s ∈ t2.params, hasB all s = true)
/-- The values of the first names, 0 for others. -/
def fOf (names : List ByteArray) (vs : List Int) (s : ByteArray) : Int := if 0 ≤ atS names s then vs.getD (atS names s).toNat 0 else 0
theorem getD_nn {vs : List Int} (hv : ∀ x ∈ vs, 0 ≤ x ∧ x ≤ 1000) (i : Nat) : 0 ≤ vs.getD i 0 := by
  rw [List.getD_eq_getElem?_getD]
  cases e : vs[i]? with
  | none => simp
  | some v => simpa using (hv v (List.mem_of_getElem? e)).1
theorem fOf_nn {vs : List Int} (hv : ∀ x ∈ vs, 0 ≤ x ∧ x ≤ 1000) (s : ByteArray) : 0 ≤ fOf names vs s := by
  unfold fOf; split
  · exact getD_nn hv _
  · omega
include hpre in
theorem fOf_le {vs : List Int} (hv : ∀ x ∈ vs, 0 ≤ x ∧ x ≤ 1000) (s : ByteArray) : fOf names vs s ≤ valAt all vs s := by
  obtain ⟨l, rfl⟩ := hpre
  unfold fOf valAt; split
  · rename_i h; rw [atS_pre h]; omega
  · exact getD_nn hv _
include o1 hpre p1 in
theorem weigh1 (vs : List Int) : t1.weigh (valAt all vs) = t1.it.num (fOf names vs) := by
  rw [it_num _ t1 o1]
  refine weigh_congr t1 o1 (fun s hs => ?_)
  obtain ⟨l, rfl⟩ := hpre
  have h := p1 s hs
  have h0 := (atS_lt names s h).1
  unfold fOf valAt
  rw [if_pos h0, atS_pre h0]

include o1 o2 c2 hn6 hpre p1 p2 in
theorem leq_iff (hall : all.length ≤ 12) :
    (∀ vs ∈ tries all.length, t1.weigh (valAt all vs) ≤ t2.weigh (valAt all vs)) ↔
    (∀ z, z < 2 ^ (decideds names t1.it t2.it names.length).length → leqS (t1.it.sums names (valTo (decideds names t1.it t2.it names.length) z (decideds names t1.it t2.it names.length).length)) (t2.it.sums names (valTo (decideds names t1.it t2.it names.length) z (decideds names t1.it t2.it names.length).length))) := by
  generalize hds : decideds names t1.it t2.it names.length = ds
  have hdec : ∀ (val : Nat → Int), (∀ i ∈ ds, val i = 1 ∨ val i = 2) → Dec names val t1.it ∧ Dec names val t2.it := by
    intro val hval
    have key : ∀ s, (decP s t1.it || decP s t2.it) = true → atS names s < 0 ∨ val (atS names s).toNat = 1 ∨ val (atS names s).toNat = 2 := by
      intro s hs
      by_cases h : atS names s < 0
      · exact .inl h
      · right
        have h0 : 0 ≤ atS names s := by omega
        have hm := atS_mem names s
        rw [decide_eq_true h0] at hm
        have hlt := (atS_lt names s hm.symm).2
        refine hval _ ?_
        rw [← hds]
        exact decideds_in (by omega) (by rw [atS_get h0]; exact hs)
    exact ⟨dec_of (fun s hs => key s (by rw [hs]; rfl)), dec_of (fun s hs => key s (by rw [hs]; simp))⟩
  constructor
  · intro H z hz
    have hcs := fun i => valTo_cases ds z ds.length i (Nat.le_refl _)
    rw [List.take_length] at hcs
    obtain ⟨d1, d2⟩ := hdec _ (fun i hi => (hcs i).1 hi)
    generalize valTo ds z ds.length = val at *
    have hv3 : ∀ i, val i = 0 ∨ val i = 1 ∨ val i = 2 := fun i => by
      by_cases h : i ∈ ds
      · exact .inr ((hcs i).1 h)
      · exact .inl ((hcs i).2 h)
    have b1 := sums_bd names val t1.it
    have b2 := sums_bd names val t2.it
    rw [it_cnt t1 o1] at b1
    rw [it_cnt t2 o2] at b2
    -- a row of values for the case, with the place big at 1000
    have row : ∀ big, (big = all.length ∨ (big < names.length ∧ val big ≠ 1)) → ∃ vs ∈ tries all.length, (∀ j, vs.getD j 0 = if j < names.length ∧ (j = big ∨ val j = 2) then (if j = big then 1000 else 1) else 0) := by
      intro big hbig
      obtain ⟨set, hset, hbits⟩ := bits_num ((List.range all.length).map (fun j => !(decide (j < names.length ∧ (j = big ∨ val j = 2)))))
      simp only [List.length_map, List.length_range] at hset hbits
      have hb : ∀ j, j < all.length → inSet set j = !(decide (j < names.length ∧ (j = big ∨ val j = 2))) := fun j hj => by
        rw [hbits j hj]; simp
      have hle : names.length ≤ all.length := by obtain ⟨l, h⟩ := hpre; rw [h]; simp
      refine ⟨tryRow all.length set big, triesOf_in hset (by omega) ?_, fun j => ?_⟩
      · unfold tryOk
        rcases hbig with h | ⟨h1, h2⟩
        · rw [decide_eq_true h]; rfl
        · rw [hb big (by omega)]; simp [h1]
      · rw [List.getD_eq_getElem?_getD]
        by_cases hj : j < all.length
        · unfold tryRow
          simp only [List.getElem?_map, List.getElem?_range hj, Option.map_some, Option.getD_some]
          unfold tryAt
          rw [hb j hj]
          by_cases hp : j < names.length ∧ (j = big ∨ val j = 2)
          · rw [if_pos hp, decide_eq_true hp]; simp
          · rw [if_neg hp, decide_eq_false hp]; simp
        · rw [List.getElem?_eq_none (by rw [tryRow_len]; omega), if_neg (by omega)]; rfl
    have fit : ∀ big vs, (big = all.length ∨ (big < names.length ∧ val big ≠ 1)) → (∀ x ∈ vs, 0 ≤ x ∧ x ≤ 1000) → (∀ j, vs.getD j 0 = if j < names.length ∧ (j = big ∨ val j = 2) then (if j = big then 1000 else 1) else 0) → Fit names val (fOf names vs) (fun j => vs.getD j 0) := by
      intro big vs hbig hv hg
      have hle : names.length ≤ all.length := by obtain ⟨l, h⟩ := hpre; rw [h]; simp
      refine ⟨fOf_nn hv, fun s h => by unfold fOf; rw [if_neg (by omega)], fun s h h1 => ?_, fun s h h2 => ?_, fun s h => by unfold fOf; rw [if_pos h]⟩
      · unfold fOf
        rw [if_pos h, hg, if_neg]
        rintro ⟨q1, q2 | q2⟩
        · rcases hbig with hb | ⟨_, hb⟩
          · omega
          · rw [← q2] at hb; exact hb h1
        · omega
      · unfold fOf
        have hm := atS_mem names s
        rw [decide_eq_true h] at hm
        have hlt := (atS_lt names s hm.symm).2
        rw [if_pos h, hg, if_pos ⟨by omega, .inr h2⟩]
        split <;> omega
    have w2eq : ∀ vs, (∀ j, names.length ≤ j → vs.getD j 0 = 0) → t2.weigh (valAt all vs) = t2.it.num (fOf names vs) := by
      intro vs h0
      rw [it_num _ t2 o2]
      refine weigh_congr t2 o2 (fun s hs => ?_)
      have hp := p2 s hs
      have ha := (atS_lt all s hp).1
      obtain ⟨l, rfl⟩ := hpre
      unfold fOf valAt
      by_cases h : 0 ≤ atS names s
      · rw [if_pos h, atS_pre h]
      · rw [if_neg h]; exact h0 _ (atS_post (by omega) ha)
    refine ⟨fun i hi => ?_, ?_⟩
    · by_cases hx : 0 ≤ (t1.it.sums names val).tops i
      · obtain ⟨hin, hv1⟩ := tops_idx names val t1.it i hx
        obtain ⟨vs, hvs, hg⟩ := row i (.inr ⟨hin, hv1⟩)
        have hb := (tries_rows vs hvs).2
        have F := fit i vs (.inr ⟨hin, hv1⟩) hb hg
        have h := H vs hvs
        rw [weigh1 o1 hpre p1, w2eq vs (fun j hj => by rw [hg, if_neg (by omega)])] at h
        have e1 := ev_num F t1.it d1
        have e2 := ev_num F t2.it d2
        have q1 := e1.2.1 i hx
        have gi : vs.getD i 0 = 1000 := by rw [hg, if_pos ⟨hin, .inl rfl⟩, if_pos rfl]
        dsimp only at q1
        rw [gi] at q1
        rcases e2.2.2 with q2 | ⟨j, hj, q2⟩
        · have := b2.2.1; omega
        · dsimp only at q2
          by_cases e : j = i
          · subst e; rw [gi] at q2; omega
          · have hgj : vs.getD j 0 ≤ 1 := by rw [hg, if_neg e]; split <;> omega
            have := (b2.2.2 j).2
            omega
      · have := (b2.2.2 i).1
        omega
    · obtain ⟨vs, hvs, hg⟩ := row all.length (.inl rfl)
      have hle : names.length ≤ all.length := by obtain ⟨l, h⟩ := hpre; rw [h]; simp
      have hb := (tries_rows vs hvs).2
      have F := fit all.length vs (.inl rfl) hb hg
      have h := H vs hvs
      rw [weigh1 o1 hpre p1, w2eq vs (fun j hj => by rw [hg, if_neg (by omega)])] at h
      have e1 := ev_num F t1.it d1
      have e2 := ev_num F t2.it d2
      have q1 := e1.1
      rcases e2.2.2 with q2 | ⟨j, hj, q2⟩
      · omega
      · dsimp only at q2
        have hlow := tops_low names val t2.it j
        have hjn := (tops_idx names val t2.it j hj).1
        have hgj : vs.getD j 0 = if val j = 2 then 1 else 0 := by
          rw [hg]
          by_cases h2 : val j = 2
          · rw [if_pos ⟨hjn, .inr h2⟩, if_neg (by omega), if_pos h2]
          · rw [if_neg (by rintro ⟨_, h | h⟩ <;> omega), if_neg h2]
        omega
  · intro H vs hvs
    have hb := (tries_rows vs hvs).2
    obtain ⟨z, hz, hbits⟩ := bits_num (ds.map (fun i => decide (vs.getD i 0 = 0)))
    simp only [List.length_map] at hz hbits
    have hval := valTo_bits ds z (fun i => decide (vs.getD i 0 = 0)) (fun k h => by rw [hbits k h]; simp) ds.length
    have hcs := fun i => valTo_cases ds z ds.length i (Nat.le_refl _)
    rw [List.take_length] at hcs
    have hS := H z hz
    obtain ⟨d1, d2⟩ := hdec _ (fun i hi => (hcs i).1 hi)
    have hbit : ∀ i, (valTo ds z ds.length i = 1 → vs.getD i 0 = 0) ∧ (valTo ds z ds.length i = 2 → vs.getD i 0 ≠ 0) := by
      intro i
      by_cases h : i ∈ ds
      · have := hval i (Nat.le_refl _) (by rw [List.take_length]; exact h)
        rw [this]
        by_cases e : vs.getD i 0 = 0
        · rw [decide_eq_true e]; exact ⟨fun _ => e, fun h => by simp at h⟩
        · rw [decide_eq_false e]; exact ⟨fun h => by simp at h, fun _ => e⟩
      · have := (hcs i).2 h
        rw [this]
        exact ⟨fun h => by omega, fun h => by omega⟩
    generalize valTo ds z ds.length = val at *
    have F : Fit names val (fOf names vs) (fun j => vs.getD j 0) :=
      ⟨fOf_nn hb, fun s h => by unfold fOf; rw [if_neg (by omega)], fun s h h1 => by unfold fOf; rw [if_pos h]; exact (hbit _).1 h1, fun s h h2 => by
        unfold fOf; rw [if_pos h]
        have := (hbit _).2 h2
        have := getD_nn hb (atS names s).toNat
        omega, fun s h => by unfold fOf; rw [if_pos h]⟩
    have e1 := ev_num F t1.it d1
    have e2 := ev_num F t2.it d2
    have hm := weigh_mono (f := fOf names vs) (h := valAt all vs) (fOf_nn hb) (fun s => by unfold valAt; exact getD_nn hb _) t2 (fun s _ => fOf_le hpre hb s) o2
    rw [weigh1 o1 hpre p1]
    rw [it_num _ t2 o2] at e2
    rcases e1.2.2 with q | ⟨i, hi, q⟩
    · have := e2.1; have := hS.2; omega
    · have hin := (tops_idx names val t1.it i hi).1
      have h1 := hS.1 i (by omega)
      have h2 := e2.2.1 i (by omega)
      omega
end
end Go.Proofs.YtgomimhelgjddaaGreat

/- What the program's hasParam and decides answer at a tree. -/
namespace Go.Proofs.YtgomimhelgjddaaGreat
open Go.ChangeShapes Go.WideShapes Go.ChangeAt Go.RowKit

/-- What is said of a call at a tree and a text that answers a truth. -/
def AskAt (fn : Nat) (p : ByteArray → It → Bool) (x : It) : Prop :=
  ∀ (s : ByteArray) (w : World), Calls Tryz.prog fn #[x.val, .string s] w fun e w' => e = .returned (.bool (p s x)) ∧ Below w.heap.size w w'

set_option maxHeartbeats 1000000 in
theorem has_zero : AskAt 138 hasP .zero := by
  intro s w
  have a1 := Tryz.as152_144
  have a2 := Tryz.as152_146
  have a3 := Tryz.as152_147
  have a4 := Tryz.as152_149
  simp only [It.val, hasP]
  go_enter Tryz.func138, Tryz.ntmps138
  go_wp2_with fail
  go_ret
  exact ⟨rfl, Below.refl _ _⟩
set_option maxHeartbeats 1000000 in
theorem has_param (r : ByteArray) : AskAt 138 hasP (.param r) := by
  intro s w
  have a1 := Tryz.as149_144
  have a2 := Tryz.as149_146
  have a3 := Tryz.as149_147
  have a4 := Tryz.as149_149
  have HB : Hid ((r.toList == s.toList) = decide (r = s)) := beq_bytes r s
  simp only [It.val, hasP]
  go_enter Tryz.func138, Tryz.ntmps138
  go_wp2_with fail
  go_ret
  exact ⟨ret_bool HB.out, bel_alloc (Below.refl _ _) _⟩
set_option maxHeartbeats 1000000 in
theorem has_succ (n : Nat) (x : It) (ih : AskAt 138 hasP x) : AskAt 138 hasP (.succ n x) := by
  intro s w
  have a1 := Tryz.as144_144
  have IH := hide (ih s)
  simp only [It.val, hasP]
  obtain ⟨T, v, hv⟩ := x.val_iface
  rw [hv] at IH ⊢
  clear hv ih
  generalize hasP s x = q at *
  go_enter Tryz.func138, Tryz.ntmps138
  go_wp2_with fail
  refine (IH.out _).mono ?_
  rintro e w1 ⟨rfl, hb1⟩
  have hbel1 := bel_trans (bel_alloc (Below.refl w.heap.size w) _) hb1
  clear hb1
  go_wp2_with fail
  go_ret
  exact ⟨rfl, hbel1⟩
set_option maxHeartbeats 2000000 in
theorem has_max (a b : It) (iha : AskAt 138 hasP a) (ihb : AskAt 138 hasP b) : AskAt 138 hasP (.max a b) := by
  intro s w
  have a0 := Tryz.as146_144
  have a1 := Tryz.as146_146
  have IHA := hide (iha s)
  have IHB := hide (ihb s)
  simp only [It.val, hasP]
  obtain ⟨Ta, va, hva⟩ := a.val_iface
  obtain ⟨Tb, vb, hvb⟩ := b.val_iface
  rw [hva] at IHA ⊢
  rw [hvb] at IHB ⊢
  clear hva hvb iha ihb
  generalize hasP s b = qb at *
  generalize hasP s a = qa at *
  cases qa
  · go_enter Tryz.func138, Tryz.ntmps138
    go_wp2_with fail
    refine (IHA.out _).mono ?_
    rintro e w1 ⟨rfl, hb1⟩
    have c1 := keep_cell (b := w.heap.size) (o := 1) (v := .iface Tb vb) hb1 (by simp [go_sem])
    have hbel1 := bel_trans (bel_alloc (Below.refl w.heap.size w) _) hb1
    clear hb1
    go_wp2_with fail
    refine (IHB.out _).mono ?_
    rintro e w2 ⟨rfl, hb2⟩
    have hbel2 := bel_trans hbel1 hb2
    clear hb2
    go_wp2_with fail
    go_ret
    exact ⟨rfl, hbel2⟩
  · go_enter Tryz.func138, Tryz.ntmps138
    go_wp2_with fail
    refine (IHA.out _).mono ?_
    rintro e w1 ⟨rfl, hb1⟩
    have hbel1 := bel_trans (bel_alloc (Below.refl w.heap.size w) _) hb1
    clear hb1
    go_wp2_with fail
    go_ret
    exact ⟨rfl, hbel1⟩
set_option maxHeartbeats 2000000 in
theorem has_imax (a b : It) (iha : AskAt 138 hasP a) (ihb : AskAt 138 hasP b) : AskAt 138 hasP (.imax a b) := by
  intro s w
  have a0 := Tryz.as147_144
  have a1 := Tryz.as147_146
  have a2 := Tryz.as147_147
  have IHA := hide (iha s)
  have IHB := hide (ihb s)
  simp only [It.val, hasP]
  obtain ⟨Ta, va, hva⟩ := a.val_iface
  obtain ⟨Tb, vb, hvb⟩ := b.val_iface
  rw [hva] at IHA ⊢
  rw [hvb] at IHB ⊢
  clear hva hvb iha ihb
  generalize hasP s b = qb at *
  generalize hasP s a = qa at *
  cases qa
  · go_enter Tryz.func138, Tryz.ntmps138
    go_wp2_with fail
    refine (IHA.out _).mono ?_
    rintro e w1 ⟨rfl, hb1⟩
    have c1 := keep_cell (b := w.heap.size) (o := 1) (v := .iface Tb vb) hb1 (by simp [go_sem])
    have hbel1 := bel_trans (bel_alloc (Below.refl w.heap.size w) _) hb1
    clear hb1
    go_wp2_with fail
    refine (IHB.out _).mono ?_
    rintro e w2 ⟨rfl, hb2⟩
    have hbel2 := bel_trans hbel1 hb2
    clear hb2
    go_wp2_with fail
    go_ret
    exact ⟨rfl, hbel2⟩
  · go_enter Tryz.func138, Tryz.ntmps138
    go_wp2_with fail
    refine (IHA.out _).mono ?_
    rintro e w1 ⟨rfl, hb1⟩
    have hbel1 := bel_trans (bel_alloc (Below.refl w.heap.size w) _) hb1
    clear hb1
    go_wp2_with fail
    go_ret
    exact ⟨rfl, hbel1⟩
theorem hasParam_any : ∀ x : It, AskAt 138 hasP x
  | .zero => has_zero
  | .succ n x => has_succ n x (hasParam_any x)
  | .max a b => has_max a b (hasParam_any a) (hasParam_any b)
  | .imax a b => has_imax a b (hasParam_any a) (hasParam_any b)
  | .param r => has_param r

set_option maxHeartbeats 1000000 in
theorem dec_zero : AskAt 111 decP .zero := by
  intro s w
  have a1 := Tryz.as152_144
  have a2 := Tryz.as152_146
  have a3 := Tryz.as152_147
  simp only [It.val, decP]
  go_enter Tryz.func111, Tryz.ntmps111
  go_wp2_with fail
  go_ret
  exact ⟨rfl, Below.refl _ _⟩
set_option maxHeartbeats 1000000 in
theorem dec_param (r : ByteArray) : AskAt 111 decP (.param r) := by
  intro s w
  have a1 := Tryz.as149_144
  have a2 := Tryz.as149_146
  have a3 := Tryz.as149_147
  simp only [It.val, decP]
  go_enter Tryz.func111, Tryz.ntmps111
  go_wp2_with fail
  go_ret
  exact ⟨rfl, Below.refl _ _⟩
set_option maxHeartbeats 1000000 in
theorem dec_succ (n : Nat) (x : It) (ih : AskAt 111 decP x) : AskAt 111 decP (.succ n x) := by
  intro s w
  have a1 := Tryz.as144_144
  have IH := hide (ih s)
  simp only [It.val, decP]
  obtain ⟨T, v, hv⟩ := x.val_iface
  rw [hv] at IH ⊢
  clear hv ih
  generalize decP s x = q at *
  go_enter Tryz.func111, Tryz.ntmps111
  go_wp2_with fail
  refine (IH.out _).mono ?_
  rintro e w1 ⟨rfl, hb1⟩
  have hbel1 := bel_trans (bel_alloc (Below.refl w.heap.size w) _) hb1
  clear hb1
  go_wp2_with fail
  go_ret
  exact ⟨rfl, hbel1⟩
set_option maxHeartbeats 2000000 in
theorem dec_max (a b : It) (iha : AskAt 111 decP a) (ihb : AskAt 111 decP b) : AskAt 111 decP (.max a b) := by
  intro s w
  have a0 := Tryz.as146_144
  have a1 := Tryz.as146_146
  have IHA := hide (iha s)
  have IHB := hide (ihb s)
  simp only [It.val, decP]
  obtain ⟨Ta, va, hva⟩ := a.val_iface
  obtain ⟨Tb, vb, hvb⟩ := b.val_iface
  rw [hva] at IHA ⊢
  rw [hvb] at IHB ⊢
  clear hva hvb iha ihb
  generalize decP s b = qb at *
  generalize decP s a = qa at *
  cases qa
  · go_enter Tryz.func111, Tryz.ntmps111
    go_wp2_with fail
    refine (IHA.out _).mono ?_
    rintro e w1 ⟨rfl, hb1⟩
    have c1 := keep_cell (b := w.heap.size) (o := 1) (v := .iface Tb vb) hb1 (by simp [go_sem])
    have hbel1 := bel_trans (bel_alloc (Below.refl w.heap.size w) _) hb1
    clear hb1
    go_wp2_with fail
    refine (IHB.out _).mono ?_
    rintro e w2 ⟨rfl, hb2⟩
    have hbel2 := bel_trans hbel1 hb2
    clear hb2
    go_wp2_with fail
    go_ret
    exact ⟨rfl, hbel2⟩
  · go_enter Tryz.func111, Tryz.ntmps111
    go_wp2_with fail
    refine (IHA.out _).mono ?_
    rintro e w1 ⟨rfl, hb1⟩
    have hbel1 := bel_trans (bel_alloc (Below.refl w.heap.size w) _) hb1
    clear hb1
    go_wp2_with fail
    go_ret
    exact ⟨rfl, hbel1⟩
set_option maxHeartbeats 2000000 in
theorem dec_imax (a b : It) (iha : AskAt 111 decP a) (ihb : AskAt 138 hasP b) : AskAt 111 decP (.imax a b) := by
  intro s w
  have a0 := Tryz.as147_144
  have a1 := Tryz.as147_146
  have a2 := Tryz.as147_147
  have IHA := hide (iha s)
  have IHB := hide (ihb s)
  simp only [It.val, decP]
  obtain ⟨Ta, va, hva⟩ := a.val_iface
  obtain ⟨Tb, vb, hvb⟩ := b.val_iface
  rw [hva] at IHA ⊢
  rw [hvb] at IHB ⊢
  clear hva hvb iha ihb
  generalize hasP s b = qb at *
  generalize decP s a = qa at *
  cases qa
  · go_enter Tryz.func111, Tryz.ntmps111
    go_wp2_with fail
    refine (IHA.out _).mono ?_
    rintro e w1 ⟨rfl, hb1⟩
    have c1 := keep_cell (b := w.heap.size) (o := 1) (v := .iface Tb vb) hb1 (by simp [go_sem])
    have hbel1 := bel_trans (bel_alloc (Below.refl w.heap.size w) _) hb1
    clear hb1
    go_wp2_with fail
    refine (IHB.out _).mono ?_
    rintro e w2 ⟨rfl, hb2⟩
    have hbel2 := bel_trans hbel1 hb2
    clear hb2
    go_wp2_with fail
    go_ret
    exact ⟨rfl, hbel2⟩
  · go_enter Tryz.func111, Tryz.ntmps111
    go_wp2_with fail
    refine (IHA.out _).mono ?_
    rintro e w1 ⟨rfl, hb1⟩
    have hbel1 := bel_trans (bel_alloc (Below.refl w.heap.size w) _) hb1
    clear hb1
    go_wp2_with fail
    go_ret
    exact ⟨rfl, hbel1⟩
theorem decides_any : ∀ x : It, AskAt 111 decP x
  | .zero => dec_zero
  | .succ n x => dec_succ n x (decides_any x)
  | .max a b => dec_max a b (decides_any a) (decides_any b)
  | .imax a b => dec_imax a b (decides_any a) (hasParam_any b)
  | .param r => dec_param r
end Go.Proofs.YtgomimhelgjddaaGreat
