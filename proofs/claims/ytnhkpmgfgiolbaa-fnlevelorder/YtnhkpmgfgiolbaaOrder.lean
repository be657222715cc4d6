/- Plain facts: what the program's order of levels says of their numbers at any values, and that a level is below a greatest one of it and another. For FnLevelOrder. No program is walked here. -/
import Derived.Test.YtnhkpmgfgiolbaaSame
namespace Go.Proofs.Ytnhkpmgfgiolbaa

theorem it_flat {t1 t2 : Tr} (h1 : t1.ok) (h2 : t2.ok) (hf : t1.flat 0 = t2.flat 0) : t1.it = t2.it := by
  have l1 := its_last t1
  have l2 := its_last t2
  have c : t1.cnt = t2.cnt := by rw [← Tr.flat_len t1 0, ← Tr.flat_len t2 0, hf]
  rw [← c] at l2
  exact its_same h1 h2 hf _ _ _ l1 l2

/-- What is below in the order has the lesser number at all values. -/
theorem leq_all {ns1 ns2 : List Nd} {t1 t2 : Tr} (h1 : OkTree ns1 t1) (h2 : OkTree ns2 t2) (h : casesLeq (namesOf ns1) t1.it t2.it = true) (f : ByteArray → Int) (hf : ∀ s, 0 ≤ f s) : t1.weigh f ≤ t2.weigh f := by
  have o1 := h1.2.1
  have o2 := h2.2.1
  have e1 := h1.2.2.1
  have p1 : ∀ s ∈ t1.params, hasB (namesOf ns1) s = true := fun s hs => by rw [← e1]; exact names_params t1 [] s hs
  have hn6 := h1.2.2.2.2.2
  unfold casesLeq at h
  rw [List.all_eq_true] at h
  generalize namesOf ns1 = names at *
  generalize hds : decideds names t1.it t2.it names.length = ds at *
  have hdec : ∀ (val : Nat → Int), (∀ i ∈ ds, val i = 1 ∨ val i = 2) → Dec names val t1.it ∧ Dec names val t2.it := by
    intro val hval
    have key : ∀ s, (decP s t1.it || decP s t2.it) = true → atS names s < 0 ∨ val (atS names s).toNat = 1 ∨ val (atS names s).toNat = 2 := by
      intro s hs
      by_cases h : atS names s < 0
      · exact .inl h
      · right
        have h0 : 0 ≤ atS names s := by omega
        have hm := atS_mem names s
        rw [decide_eq_true h0] at hm
        have hlt := (atS_lt names s hm.symm).2
        refine hval _ ?_
        rw [← hds]
        exact decideds_in (by omega) (by rw [atS_get h0]; exact hs)
    exact ⟨dec_of (fun s hs => key s (by rw [hs]; rfl)), dec_of (fun s hs => key s (by rw [hs]; simp))⟩
  obtain ⟨z, hz, hbits⟩ := bits_num (ds.map (fun i => decide (f (names.getD i default) = 0)))
  simp only [List.length_map] at hz hbits
  have hval := valTo_bits ds z (fun i => decide (f (names.getD i default) = 0)) (fun k h => by rw [hbits k h]; simp) ds.length
  have hcs := fun i => valTo_cases ds z ds.length i (Nat.le_refl _)
  rw [List.take_length] at hcs
  have hS := (leqB_iff _ _).1 (h z (by simpa using hz))
  obtain ⟨d1, d2⟩ := hdec _ (fun i hi => (hcs i).1 hi)
  have hbit : ∀ i, (valTo ds z ds.length i = 1 → f (names.getD i default) = 0) ∧ (valTo ds z ds.length i = 2 → f (names.getD i default) ≠ 0) := by
    intro i
    by_cases hi : i ∈ ds
    · have := hval i (Nat.le_refl _) (by rw [List.take_length]; exact hi)
      rw [this]
      by_cases e : f (names.getD i default) = 0
      · rw [decide_eq_true e]; exact ⟨fun _ => e, fun h => by simp at h⟩
      · rw [decide_eq_false e]; exact ⟨fun h => by simp at h, fun _ => e⟩
    · have := (hcs i).2 hi
      rw [this]
      exact ⟨fun h => by omega, fun h => by omega⟩
  generalize valTo ds z ds.length = val at *
  let g : ByteArray → Int := fun s => if 0 ≤ atS names s then f s else 0
  have hg0 : ∀ s, 0 ≤ g s := fun s => by
    show 0 ≤ (if 0 ≤ atS names s then f s else 0)
    split
    · exact hf s
    · omega
  have gin : ∀ s, 0 ≤ atS names s → g s = f s := fun s hs => if_pos hs
  have F : Fit names val g (fun j => f (names.getD j default)) :=
    ⟨hg0, fun s hs => if_neg (by omega), fun s hs q => by rw [gin s hs]; have := (hbit _).1 q; rwa [atS_get hs] at this,
      fun s hs q => by
        rw [gin s hs]
        have := (hbit _).2 q
        rw [atS_get hs] at this
        have := hf s
        omega, fun s hs => by show f (names.getD _ default) = g s; rw [atS_get hs, gin s hs]⟩
  have q1 := ev_num F t1.it d1
  have q2 := ev_num F t2.it d2
  have hm := weigh_mono (f := g) (h := f) hg0 hf t2 (fun s _ => by
    show (if 0 ≤ atS names s then f s else 0) ≤ f s
    split
    · omega
    · exact hf s) o2
  have hw : t1.weigh f = t1.it.num g := by
    rw [it_num _ t1 o1]
    refine weigh_congr t1 o1 (fun s hs => ?_)
    exact (gin s (atS_lt names s (p1 s hs)).1).symm
  rw [hw]
  rw [it_num _ t2 o2] at q2
  rcases q1.2.2 with q | ⟨i, hi, q⟩
  · have := q2.1; have := hS.2; omega
  · have hin := (tops_idx names val t1.it i hi).1
    have r1 := hS.1 i (by omega)
    have r2 := q2.2.1 i (by omega)
    omega

/-- A level is below a greatest one of it and another, whichever stands first. -/
theorem leq_join {ns1 ns3 : List Nd} {t1 t3 a b : Tr} {s : ByteArray} (h1 : OkTree ns1 t1) (h3 : OkTree ns3 t3) (hn : ns3 = (Tr.two 3 s a b).flat 0) (oj : (Tr.two 3 s a b).ok) (hab : t1 = a ∨ t1 = b) : casesLeq (namesOf ns1) t1.it t3.it = true := by
  rw [leq_same h1 h3]
  unfold triesLeq
  rw [List.all_eq_true]
  intro vs _
  rw [decide_eq_true_eq]
  have e : t3.it = (Tr.two 3 s a b).it := it_flat h3.2.1 oj (by rw [← h3.1, hn])
  rw [← it_num _ t3 h3.2.1, e, ← it_num _ t1 h1.2.1]
  simp only [Tr.it, if_true, It.num]
  rcases hab with rfl | rfl <;> split <;> omega
end Go.Proofs.Ytnhkpmgfgiolbaa
