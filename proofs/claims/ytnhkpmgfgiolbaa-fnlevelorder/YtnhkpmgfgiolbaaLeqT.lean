/- What the specification's LevelLeq answers. -/
import Derived.Test.YtnhkpmgfgiolbaaLeqS
namespace Go.Proofs.Ytnhkpmgfgiolbaa
open Go.ChangeShapes Go.WideShapes Go.ChangeAt Go.RowKit

theorem has_snoc (l : List ByteArray) (s x : ByteArray) : hasB (l ++ [s]) x = true ↔ (hasB l x = true ∨ s = x) := by
  unfold hasB
  rw [List.any_append, Bool.or_eq_true]
  simp
theorem fold_two : ∀ (ns : List Nd) (A L : List ByteArray) (c : Nat), A.length ≤ c + L.length → (∀ s, hasB L s = true → hasB A s = true) → (ns.foldl addName A).length ≤ c + (ns.foldl addName L).length
  | [], A, L, c, h, _ => h
  | nd :: ns, A, L, c, h, hh => by
    simp only [List.foldl_cons]
    unfold addName
    by_cases h5 : nd.k = 5
    · cases ha : hasB A nd.s
      · have hl : hasB L nd.s = false := by
          cases e : hasB L nd.s
          · rfl
          · rw [hh _ e] at ha; cases ha
        rw [if_pos ⟨h5, rfl⟩, if_pos ⟨h5, hl⟩]
        refine fold_two ns _ _ c (by simp; omega) (fun s hs => ?_)
        rw [has_snoc] at hs ⊢
        rcases hs with hs | hs
        · exact .inl (hh s hs)
        · exact .inr hs
      · rw [if_neg (by simp)]
        by_cases hl : hasB L nd.s = false
        · rw [if_pos ⟨h5, hl⟩]
          refine fold_two ns _ _ c (by simp; omega) (fun s hs => ?_)
          rw [has_snoc] at hs
          rcases hs with hs | hs
          · exact hh s hs
          · rw [← hs]; exact ha
        · rw [if_neg (fun c => hl c.2)]
          exact fold_two ns _ _ c h hh
    · rw [if_neg (fun c => h5 c.1), if_neg (fun c => h5 c.1)]
      exact fold_two ns _ _ c h hh
theorem names_le12 {ns1 ns2 : List Nd} {t1 t2 : Tr} (h1 : OkTree ns1 t1) (h2 : OkTree ns2 t2) : (t2.names (t1.names [])).length ≤ 12 := by
  have e1 : (t1.names []).length ≤ 6 := by rw [h1.2.2.1]; exact h1.2.2.2.2.2
  have e2 : (t2.names []).length ≤ 6 := by rw [h2.2.2.1]; exact h2.2.2.2.2.2
  rw [Tr.names_flat t2 0 _ h2.2.1] at e2 ⊢
  have := fold_two (t2.flat 0) (t1.names []) [] (t1.names []).length (by simp) (fun s hs => by simp [hasB] at hs)
  omega

set_option maxRecDepth 10000 in
set_option maxHeartbeats 2000000 in
theorem specLeq_any (v1 v2 : Value) (ns1 ns2 : List Nd) (w : World) (hn1 : NodesAt w v1 ns1) (hn2 : NodesAt w v2 ns2) (hz1 : ∀ nd ∈ ns1, nd.s.size ≤ maxLen) (hz2 : ∀ nd ∈ ns2, nd.s.size ≤ maxLen) :
    Calls Try.prog 31 #[.agg #[v1], .agg #[v2]] w fun e w' => (((lvlB ns1 = false ∨ lvlB ns2 = false) ∧ e = .returned (.bool false)) ∨ (lvlB ns1 = true ∧ lvlB ns2 = true ∧ ∃ t1 t2, OkTree ns1 t1 ∧ OkTree ns2 t2 ∧ e = .returned (.bool (triesLeq t1 t2 (t2.names (t1.names [])))))) ∧ Below w.heap.size w w' := by
  have HN1 := hide hn1
  have HN2 := hide hn2
  have HZ1 := hide hz1
  have HZ2 := hide hz2
  obtain ⟨a1, cap1, rfl, _, _, _⟩ := hn1
  obtain ⟨a2, cap2, rfl, _, _, _⟩ := hn2
  clear hz1 hz2
  have HB0 : Hid (∀ o1 o2, Below w.heap.size w ((w.alloc o1).alloc o2)) := fun o1 o2 => bel_alloc (bel_alloc (Below.refl _ _) o1) o2
  go_enter Try.func31, Try.ntmps31
  go_wp2_with fail
  refine (l1Tree_any _ ns1 _ (HN1.out.keep (HB0.out _ _)) HZ1.out).mono ?_
  rintro e w1 ⟨hres1, hb1⟩
  have hbel1 := bel_trans (HB0.out _ _) hb1
  have d1 := keep_cell (b := w.heap.size + 1) (o := 0) (v := .slice a2 ns2.length cap2) hb1 (by simp [go_sem])
  clear hb1
  rcases hres1 with ⟨hl1, rfl⟩ | ⟨hl1, g1, t1, rfl, htr1, hf1, hok1, hnm1, hct1⟩
  · go_wp2_with fail
    refine (l1Tree_any _ ns2 _ (HN2.out.keep hbel1) HZ2.out).mono ?_
    rintro e w2 ⟨hres2, hb2⟩
    have hbel2 := bel_trans hbel1 hb2
    clear hb2
    rcases hres2 with ⟨hl2, rfl⟩ | ⟨hl2, g2, t2, rfl, _⟩
    · go_wp2_with (go_at_call 65; refine (none_none _).mono ?_; rintro e w' ⟨rfl, hw⟩; have hw := hw.symm; subst hw)
      go_ret
      exact ⟨.inl ⟨.inl hl1, rfl⟩, hbel2⟩
    · go_wp2_with (go_at_call 65; refine (none_none _).mono ?_; rintro e w' ⟨rfl, hw⟩; have hw := hw.symm; subst hw)
      go_ret
      exact ⟨.inl ⟨.inl hl1, rfl⟩, hbel2⟩
  · obtain ⟨q1, q2⟩ := lvl_bounds hl1
    have HT1 : Hid (OkTree ns1 t1) := ⟨hf1, hok1, hnm1, hct1, q1, q2⟩
    have HTR1 := hide htr1
    clear hf1 hok1 hnm1 hct1 q1 q2 htr1
    go_wp2_with fail
    refine (l1Tree_any _ ns2 _ (HN2.out.keep hbel1) HZ2.out).mono ?_
    rintro e w2 ⟨hres2, hb2⟩
    have hbel2 := bel_trans hbel1 hb2
    have HTR12 := hide ((HTR1.out.keep hb2).mono hb2.size)
    clear hb2
    rcases hres2 with ⟨hl2, rfl⟩ | ⟨hl2, g2, t2, rfl, htr2, hf2, hok2, hnm2, hct2⟩
    · go_wp2_with (first
        | (go_at_call_of 65 (Value.pointer none); refine (none_none _).mono ?_; rintro e w' ⟨rfl, hw⟩; have hw := hw.symm; subst hw)
        | (go_at_call_of 65 (Value.pointer (some ⟨g1, 0, none⟩)); refine (none_some _ _).mono ?_; rintro e w' ⟨rfl, hw⟩; have hw := hw.symm; subst hw))
      go_ret
      exact ⟨.inl ⟨.inr hl2, rfl⟩, hbel2⟩
    · obtain ⟨q1, q2⟩ := lvl_bounds hl2
      have HT2 : Hid (OkTree ns2 t2) := ⟨hf2, hok2, hnm2, hct2, q1, q2⟩
      have HTR2 := hide htr2
      clear hf2 hok2 hnm2 hct2 q1 q2 htr2
      have HLQ := hide (l1Leq_any t1 t2 g1 g2 w2 HTR12.out HTR2.out HT1.out.2.1 HT2.out.2.1 (by have := HT1.out.2.2.2; omega) (by have := HT2.out.2.2.2; omega) (names_le12 HT1.out HT2.out))
      obtain ⟨r, hr⟩ : ∃ r, triesLeq t1 t2 (t2.names (t1.names [])) = r := ⟨_, rfl⟩
      rw [hr] at HLQ
      have HR := hide hr
      clear hr
      go_wp2_with (go_at_call 65; refine (none_some _ _).mono ?_; rintro e w' ⟨rfl, hw⟩; have hw := hw.symm; subst hw)
      refine HLQ.out.mono ?_
      rintro e w3 ⟨rfl, hb3⟩
      have hbel3 := bel_trans hbel2 hb3
      clear hb3
      go_wp2_with fail
      go_ret
      exact ⟨.inr ⟨hl1, hl2, t1, t2, HT1.out, HT2.out, ret_bool HR.out.symm⟩, hbel3⟩
end Go.Proofs.Ytnhkpmgfgiolbaa
