/- Plain facts: the text of a level's tree is one of the grammar's and says that tree. No program is named here. -/
import Derived.Test.YtlmhpdmgjfankaaDoorTxS
import Derived.Test.YtlmhpdmgjfankaaDoorPaC
namespace Go.Proofs.YtlmhpdmgjfankaaDoor

theorem u8_of {n : Nat} (h : n < 256) : (UInt8.ofNat n).toNat = n := by simp; omega
theorem dec_num {n : Nat} (h : n < 100) : okNum (Lib.decDigits n) = true ∧ numU (Lib.decDigits n) = n := by
  by_cases h0 : n < 10
  · rw [Lib.decDigits_one h0]
    have h1 := u8_of (n := 48 + n) (by omega)
    refine ⟨?_, ?_⟩
    · simp only [okNum, List.length_singleton, List.all_cons, List.all_nil, digU, h1, Bool.and_true, Bool.and_eq_true, decide_eq_true_eq]; omega
    · simp only [numU, List.foldl_cons, List.foldl_nil, h1]; omega
  · rw [Lib.decDigits_two h0 h]
    have h1 := u8_of (n := 48 + n / 10) (by omega)
    have h2 := u8_of (n := 48 + n % 10) (by omega)
    refine ⟨?_, ?_⟩
    · simp only [okNum, List.length_cons, List.length_nil, List.all_cons, List.all_nil, digU, h1, h2, Bool.and_true, Bool.and_eq_true, decide_eq_true_eq]; omega
    · simp only [numU, List.foldl_cons, List.foldl_nil, h1, h2]; omega
/-- No successor around a row of successors. -/
def It.norm : It → Prop
  | .zero => True
  | .succ n x => 1 ≤ n ∧ x.isSucc = false ∧ x.norm
  | .max a b => a.norm ∧ b.norm
  | .imax a b => a.norm ∧ b.norm
  | .param _ => True
theorem norm_around {x : It} (h : x.norm) : (sAround x).norm := by
  cases x with
  | succ n y => exact ⟨by omega, h.2⟩
  | zero => exact ⟨Nat.le_refl _, rfl, h⟩
  | max a b => exact ⟨Nat.le_refl _, rfl, h⟩
  | imax a b => exact ⟨Nat.le_refl _, rfl, h⟩
  | param s => exact ⟨Nat.le_refl _, rfl, h⟩
theorem it_norm : ∀ t : Tr, t.it.norm
  | .leaf k s => by simp only [Tr.it]; split <;> trivial
  | .one _ _ a => norm_around (it_norm a)
  | .two k _ a b => by simp only [Tr.it]; split <;> exact ⟨it_norm a, it_norm b⟩
/-- What a tree's text says. -/
def It.lx : It → Lx
  | .zero => .num 0
  | .succ n x => if x.isZero then .num n else .plus x.lx n
  | .max a b => .max a.lx b.lx
  | .imax a b => .imax a.lx b.lx
  | .param s => .name s.data.toList
theorem sA0_plain {n : Nat} {x : It} (hn : 1 ≤ n) (h : x.isSucc = false) : sA0 n x = .succ n x := by
  unfold sA0
  rw [if_neg (by omega)]
  cases x with
  | succ _ _ => cases h
  | zero => rfl
  | max _ _ => rfl
  | imax _ _ => rfl
  | param _ => rfl
theorem ba_mk (s : ByteArray) : (⟨s.data.toList.toArray⟩ : ByteArray) = s := by cases s; simp
theorem lx_it : ∀ x : It, x.norm → x.lx.it = x
  | .zero, _ => rfl
  | .succ n x, h => by
    cases hz : x.isZero with
    | true =>
      cases x with
      | zero => exact sA0_plain h.1 rfl
      | succ _ _ => cases hz
      | max _ _ => cases hz
      | imax _ _ => cases hz
      | param _ => cases hz
    | false =>
      simp only [It.lx, hz]
      show sA0 n x.lx.it = _
      rw [lx_it x h.2.2, sA0_plain h.1 h.2.1]
  | .max a b, h => by simp only [It.lx, Lx.it, lx_it a h.1, lx_it b h.2]
  | .imax a b, h => by simp only [It.lx, Lx.it, lx_it a h.1, lx_it b h.2]
  | .param s, _ => by simp only [It.lx, Lx.it, ba_mk]
theorem ba_app (a b : ByteArray) : (a ++ b).data.toList = a.data.toList ++ b.data.toList := by simp
theorem lx_G : ∀ x : It, x.norm → x.cnt ≤ 64 → (∀ s ∈ x.params, paramB s = true) → G x.text.data.toList x.lx
  | .zero, _, _, _ => by
    have := G.num [48] (by decide)
    exact this
  | .succ n x, h, hc, hp => by
    simp only [It.cnt] at hc
    obtain ⟨d1, d2⟩ := dec_num (show n < 100 by omega)
    simp only [It.text, It.lx]
    split
    · have := G.num (Lib.decDigits n) d1
      rw [d2] at this
      have e : (dec n).data.toList = Lib.decDigits n := by unfold dec; simp
      rw [e]; exact this
    · have := G.plus x.text.data.toList (Lib.decDigits n) x.lx (lx_G x h.2.2 (by omega) hp) d1
      rw [d2] at this
      have e : (dec n).data.toList = Lib.decDigits n := by unfold dec; simp
      rw [ba_app, ba_app, e]
      exact this
  | .max a b, h, hc, hp => by
    simp only [It.cnt] at hc
    simp only [It.params] at hp
    have := G.max a.text.data.toList b.text.data.toList a.lx b.lx (lx_G a h.1 (by omega) (fun s hs => hp s (by simp [hs]))) (lx_G b h.2 (by omega) (fun s hs => hp s (by simp [hs])))
    simp only [It.text, It.lx, ba_app]
    exact this
  | .imax a b, h, hc, hp => by
    simp only [It.cnt] at hc
    simp only [It.params] at hp
    have := G.imax a.text.data.toList b.text.data.toList a.lx b.lx (lx_G a h.1 (by omega) (fun s hs => hp s (by simp [hs]))) (lx_G b h.2 (by omega) (fun s hs => hp s (by simp [hs])))
    simp only [It.text, It.lx, ba_app]
    exact this
  | .param s, _, _, hp => by
    have h := hp s (by simp [It.params])
    refine G.name s.data.toList ?_
    unfold okName
    rw [ba_mk]; exact h
theorem params_ok : ∀ t : Tr, t.ok → ∀ s ∈ t.it.params, paramB s = true
  | .leaf k s, h, x, hx => by
    obtain ⟨h1, h2⟩ := h
    rcases h1 with rfl | rfl
    · simp [Tr.it, It.params] at hx
    · simp only [Tr.it, It.params, if_neg (show ¬ (5 : Int) = 1 by omega), List.mem_singleton] at hx
      subst hx
      unfold fieldsB at h2
      rw [if_pos rfl] at h2
      exact h2
  | .one _ _ a, h, x, hx => by
    simp only [Tr.it, params_around] at hx
    exact params_ok a h.2.2 x hx
  | .two k _ a b, h, x, hx => by
    have : x ∈ a.it.params ++ b.it.params := by
      simp only [Tr.it] at hx
      split at hx <;> exact hx
    rcases List.mem_append.1 this with h1 | h1
    · exact params_ok a h.2.2.1 x h1
    · exact params_ok b h.2.2.2 x h1
theorem It.text_size2 : ∀ x : It, x.pos → x.cnt ≤ 64 → (∀ s ∈ x.params, s.size ≤ 40) → x.text.size ≤ 24 * x.cnt + 16
  | .zero, _, _, _ => by show 1 ≤ _; omega
  | .succ n x, hq, hc, hp => by
    simp only [It.cnt] at hc
    have hn := hq.1
    have hd := dec_size (show n < 100 by omega)
    have hx := It.text_size2 x hq.2 (by omega) hp
    simp only [It.text, It.cnt]
    split
    · omega
    · rw [ByteArray.size_append, ByteArray.size_append, show (⟨#[43]⟩ : ByteArray).size = 1 from rfl]; omega
  | .max a b, hq, hc, hp => by
    simp only [It.cnt] at hc
    simp only [It.params] at hp
    have ha := It.text_size2 a hq.1 (by omega) (fun s hs => hp s (by simp [hs]))
    have hb := It.text_size2 b hq.2 (by omega) (fun s hs => hp s (by simp [hs]))
    simp only [It.text, It.cnt, ByteArray.size_append, show (⟨#[44]⟩ : ByteArray).size = 1 from rfl, show (⟨#[41]⟩ : ByteArray).size = 1 from rfl, show (⟨#[109, 97, 120, 40]⟩ : ByteArray).size = 4 from rfl]
    omega
  | .imax a b, hq, hc, hp => by
    simp only [It.cnt] at hc
    simp only [It.params] at hp
    have ha := It.text_size2 a hq.1 (by omega) (fun s hs => hp s (by simp [hs]))
    have hb := It.text_size2 b hq.2 (by omega) (fun s hs => hp s (by simp [hs]))
    simp only [It.text, It.cnt, ByteArray.size_append, show (⟨#[44]⟩ : ByteArray).size = 1 from rfl, show (⟨#[41]⟩ : ByteArray).size = 1 from rfl, show (⟨#[105, 109, 97, 120, 40]⟩ : ByteArray).size = 5 from rfl]
    omega
  | .param s, _, _, hp => by
    have := hp s (by simp [It.params])
    simp only [It.text, It.cnt]; omega

/-- A sound tree is known by the program's tree of it. -/
theorem empty_s {k : Int} {s : ByteArray} {ks : List Int} (hk : k ≠ 5) (h : fieldsB ⟨k, s, ks⟩ = true) : s = ⟨#[]⟩ := by
  unfold fieldsB at h
  rw [if_neg hk] at h
  have h0 : s.toList = [] := by simpa using h
  rw [ByteArray.toList_eq] at h0
  cases s with
  | mk d => simp at h0; rw [h0]
theorem around_inj : ∀ {x y : It}, x.norm → y.norm → sAround x = sAround y → x = y := by
  intro x y hx hy h
  cases x <;> cases y <;> simp only [sAround, It.succ.injEq, reduceCtorEq, and_false, true_and] at h <;> first
    | rfl
    | (cases h; done)
    | (obtain ⟨h1, h2⟩ := h; first | (have := hx.1; omega) | (have := hy.1; omega) | (subst h2; congr 1; omega))
    | (rw [h])
    | (exact absurd h (by simp))
theorem it_inj : ∀ (t u : Tr), t.ok → u.ok → t.it = u.it → t = u := by
  intro t
  induction t with
  | leaf k s =>
    intro u ht hu h
    have hlt : ∀ k s, (Tr.leaf k s).ok → (Tr.leaf k s).it.isSucc = false := by
      intro k s h; rcases h.1 with rfl | rfl <;> rfl
    cases u with
    | leaf k' s' =>
      rcases ht.1 with rfl | rfl <;> rcases hu.1 with rfl | rfl
      · rw [empty_s (by decide) ht.2, empty_s (by decide) hu.2]
      · simp [Tr.it] at h
      · simp [Tr.it] at h
      · simp [Tr.it] at h; rw [h]
    | one k' s' a =>
      have h1 := hlt k s ht
      rw [h] at h1
      have : (sAround a.it).isSucc = true := by cases a.it <;> rfl
      simp only [Tr.it] at h1
      rw [this] at h1; cases h1
    | two k' s' a b =>
      rcases ht.1 with rfl | rfl <;> rcases hu.1 with rfl | rfl <;> simp [Tr.it] at h
  | one k s a ih =>
    intro u ht hu h
    have hs : (sAround a.it).isSucc = true := by cases a.it <;> rfl
    cases u with
    | leaf k' s' =>
      have h1 : (Tr.leaf k' s').it.isSucc = false := by rcases hu.1 with rfl | rfl <;> rfl
      rw [← h] at h1
      simp only [Tr.it] at h1
      rw [hs] at h1; cases h1
    | one k' s' b =>
      obtain ⟨rfl, f1, o1⟩ := ht
      obtain ⟨rfl, f2, o2⟩ := hu
      simp only [Tr.it] at h
      rw [ih b o1 o2 (around_inj (it_norm a) (it_norm b) h), empty_s (by decide) f1, empty_s (by decide) f2]
    | two k' s' b c =>
      have h1 : (Tr.two k' s' b c).it.isSucc = false := by rcases hu.1 with rfl | rfl <;> rfl
      rw [← h] at h1
      simp only [Tr.it] at h1
      rw [hs] at h1; cases h1
  | two k s a b iha ihb =>
    intro u ht hu h
    cases u with
    | leaf k' s' =>
      rcases ht.1 with rfl | rfl <;> rcases hu.1 with rfl | rfl <;> simp [Tr.it] at h
    | one k' s' c =>
      have h1 : (Tr.two k s a b).it.isSucc = false := by rcases ht.1 with rfl | rfl <;> rfl
      rw [h] at h1
      have : (sAround c.it).isSucc = true := by cases c.it <;> rfl
      simp only [Tr.it] at h1
      rw [this] at h1; cases h1
    | two k' s' c d =>
      obtain ⟨k1, f1, oa, ob⟩ := ht
      obtain ⟨k2, f2, oc, od⟩ := hu
      rcases k1 with rfl | rfl <;> rcases k2 with rfl | rfl
      · simp [Tr.it] at h
        rw [iha c oa oc h.1, ihb d ob od h.2, empty_s (by decide) f1, empty_s (by decide) f2]
      · simp [Tr.it] at h
      · simp [Tr.it] at h
      · simp [Tr.it] at h
        rw [iha c oa oc h.1, ihb d ob od h.2, empty_s (by decide) f1, empty_s (by decide) f2]
/-- The text of a sound tree of few nodes is read as that tree. -/
theorem text_reads (t : Tr) (h : t.ok) (hc : t.cnt ≤ 64) : sp (t.it.text.data.toList.length + 1) t.it.text.data.toList = some t ∧ t.it.text.size ≤ 3000 := by
  have hcn : t.it.cnt ≤ 64 := by rw [it_cnt t h]; exact hc
  have hG := lx_G t.it (it_norm t) hcn (params_ok t h)
  have hi := lx_it t.it (it_norm t)
  have hf : t.it.lx.full = t := it_inj _ _ (full_ok hG).1 h (by rw [full_it]; exact hi)
  obtain ⟨h1, h2⟩ := full_tr t.it.lx
  rw [hf] at h1 h2
  have ht : t.it.lx.tr = t := (h2 (by omega)).symm
  refine ⟨?_, ?_⟩
  · have := sp_complete hG (t.it.text.data.toList.length + 1) (by omega)
    rw [ht] at this; exact this
  · have := It.text_size2 t.it (it_pos t) hcn (params_short t h); omega
end Go.Proofs.YtlmhpdmgjfankaaDoor
