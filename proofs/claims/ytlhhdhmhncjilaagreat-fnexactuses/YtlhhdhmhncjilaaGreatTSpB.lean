/- What the specification's l1Trees answers: the trees of levels, or false where one is not valid. -/
import Derived.Test.YtlhhdhmhncjilaaGreatTSpA
import Derived.Test.YtlhhdhmhncjilaaGreatTFields
namespace Go.Proofs.YtlhhdhmhncjilaaGreat
open Go.ChangeShapes Go.WideShapes Go.ChangeAt Go.RowKit

theorem Tryz.results38 : Tryz.f38.results = #[.tmp 2, .tmp 3] := by kernel_rfl
/-- A row of levels as trees, so many of them. -/
def LevRow (w : World) (v : Value) (n : Nat) : Prop := ∃ ps us, ps.length = n ∧ PtrRow w v ps ∧ LevTrees w ps us
theorem LevRow.keep {w w' : World} (hb : Below w.heap.size w w') {v : Value} {n : Nat} (h : LevRow w v n) : LevRow w' v n := by
  obtain ⟨ps, us, h1, h2, h3⟩ := h
  exact ⟨ps, us, h1, h2.keep hb, h3.keep hb⟩
theorem TreesAt.snoc {w w' : World} {ps : List Nat} {us : List Tr} (h : TreesAt w ps us) (hk : ∀ j (h1 : j < ps.length) (h2 : j < us.length), TreeAt w'.heap.size w' ps[j] us[j]) {g : Nat} {u : Tr} (hg : TreeAt w'.heap.size w' g u) : TreesAt w' (ps ++ [g]) (us ++ [u]) := by
  refine ⟨by simp [h.1], fun j h1 h2 => ?_⟩
  by_cases e : j < ps.length
  · rw [List.getElem_append_left e, List.getElem_append_left (by have := h.1; omega)]; exact hk j e (by have := h.1; omega)
  · have h3 : j = ps.length := by simp at h1; omega
    subst h3
    have h4 := h.1
    simp only [List.getElem_append_right (Nat.le_refl _), h4, Nat.sub_self, List.getElem_cons_zero]
    rw [List.getElem_append_right (by omega)]
    simpa [h4] using hg
theorem fits_of {ns : List Nd} {t : Tr} (hl : lvlB ns = true) (h2 : t.names [] = namesOf ns) (h3 : t.cnt = ns.length) : fitsB t = true := by
  unfold fitsB
  simp [lvlB] at hl
  obtain ⟨⟨_, h5⟩, h6⟩ := hl
  cases hr : runTo ns ns.length with
  | none => rw [hr] at h6; cases h6
  | some st => rw [hr] at h6; simp at h6; simp; rw [h2, h3]; exact ⟨h5, h6.2⟩

set_option maxRecDepth 20000 in
set_option maxHeartbeats 2000000 in
theorem l1Trees_any (v : Value) (ls : List (List Nd)) (w : World) (hl : LevsAt w v ls) (hz : ∀ l ∈ ls, LvLens l) (hlen : ls.length ≤ 1048576) :
    Calls Tryz.prog 38 #[v] w fun e w' => (∃ a n cap, e = .returned (.tuple #[.slice a n cap, .bool (ls.all lvlB)]) ∧ (ls.all lvlB = true → n = ls.length ∧ LevRow w' (.slice a n cap) n)) ∧ Below w.heap.size w w' := by
  obtain ⟨i82, hi82, hz82, hs82, hb82⟩ := info_parts Tryz.info89
  obtain ⟨a, cap, rfl, hlc, hcm, hc⟩ := hl
  have HC : Hid (0 < ls.length → ∃ b off, a = some ⟨b, off, none⟩ ∧ ∀ i (h : i < ls.length), ∃ u, w.cell? ⟨b, off + i, none⟩ = some u ∧ NodesAt w u ls[i]) := hc
  have HZ := hide hz
  unfold maxLen at hcm
  clear hc hz
  have hrow0 := World.ownsRow_lit (base := w.heap.size) (e := 89) (size := 1) w #[] 0 (Nat.le_refl _) (by unfold maxLen; omega) rfl
  have HR0 := hide hrow0
  clear hrow0
  go_enter Tryz.func38, Tryz.ntmps38
  go_wp2_with fail
  go_loopw [4, 5] (fun o i wr => ∃ (j g gc : Nat) (ps : List Nat) (us : List Tr), j ≤ ls.length ∧ i = .int .i64 j ∧ o = .slice (some ⟨g, 0, none⟩) j gc ∧ ps.length = j ∧ Hid (wr.ownsRow w.heap.size 89 1 (.slice (some ⟨g, 0, none⟩) j gc) j (ps.map ptrV)) ∧ Hid (LevTrees wr ps us) ∧ Hid ((ls.take j).all lvlB = true) ∧ Below w.heap.size w wr) (fun _ i _ => ls.length - (intOf i).toNat)
  case atStart => exact ⟨0, _, _, [], [], by omega, rfl, rfl, rfl, HR0.out, ⟨⟨rfl, fun j h => by simp at h⟩, by simp⟩, by simp [Hid], bel_alloc (Below.refl _ _) _⟩
  case round =>
    obtain ⟨j, g, gc, ps, us, hj, rfl, rfl, hpl, HO, HT, HA, hbel⟩ := hrel
    clear HR0
    by_cases hlt : j < ls.length
    · obtain ⟨b, off, rfl, hc⟩ := HC.out (by omega)
      obtain ⟨u, c1, hnu⟩ := hc j hlt
      have c1' := keep_cell hbel c1
      have HNU := hide (hnu.keep hbel)
      have HSZ := hide (HZ.out ls[j] (by simp))
      have HTK := hide (all_take_succ hlt HA.out)
      have HN := hide (all_not_at hlt)
      have hlt' : (j : Int) < ls.length := by omega
      clear hc c1
      generalize ls[j] = ns at *
      obtain ⟨ua, uc, rfl, _, _, _⟩ := hnu
      go_wp2_with fail
      refine (l1Tree_any _ ns _ HNU.out HSZ.out).mono ?_
      rintro e w2 ⟨(⟨hB, rfl⟩ | ⟨hB, gp, t, rfl, htr, _, _, hnm, hcn⟩), hb2⟩
      · have HF : Hid (ls.all lvlB = false) := HN.out hB
        have HBL := hide (hbel.trans (hb2.mono hbel.size))
        clear hb2
        go_wp2_with (go_at_call 58; refine (none_none _).mono ?_; rintro e w' ⟨rfl, rfl⟩)
        refine bodyPost_ret (results_tmp2 Tryz.results38 _ _ _) rfl ?_
        exact ⟨⟨some ⟨g, 0, none⟩, j, gc, by rw [HF.out]; rfl, fun h => by rw [HF.out] at h; cases h⟩, HBL.out⟩
      · have HF := hide (HTK.out hB)
        have HFT := hide (fits_of hB hnm hcn)
        have HO2 := hide (row_keep hb2 HO.out)
        have HT2 := hide (HT.out.keep hb2)
        have HTR := hide htr
        have HBL := hide (hbel.trans (hb2.mono hbel.size))
        have hsz2 := hb2.size
        have hbs := hbel.size
        clear hb2 hnm hcn htr hB
        go_wp2_with (first
          | (go_at_call 58; refine (none_some _ _).mono ?_; rintro e w' ⟨rfl, hw⟩; have hw := hw.symm; subst hw)
          | (at_builtin; refine wpList_append_lies _ rfl _ _ 38 rfl w.heap.size 89 i82 (.pointer none) 1 8 Tryz.underlying38 hi82 hz82 hs82 hb82 rfl (by omega) (.slice (some ⟨g, 0, none⟩) j gc) j (ps.map ptrV) rfl (HO2.out.alloc _) ⟨w2.heap.size, 0, none⟩ 1 1 [.pointer (some ⟨gp, 0, none⟩)] rfl rfl ?c1 ?c2 (by omega) ?c3 ?c4 ?c5 (w2.heap.size + 1) (by simp) ?_))
        case c1 => exact cell_one_new _ _ _
        case c2 => first | rfl | (intro u hu; simp at hu; subst hu; rfl)
        case c3 => unfold maxLen; omega
        case c4 => omega
        case c5 => simp; omega
        intro g4 cap4 w4 hown4 hgrow4 hat4 hlt4
        have htag := row_tag (HO2.out.alloc (.cells #[.pointer (some ⟨gp, 0, none⟩)] 89))
        have hsz4 := hgrow4.size
        have KT : ∀ (p : Nat) (t' : Tr), TreeAt w2.heap.size w2 p t' → TreeAt w4.heap.size w4 p t' := fun p t' ht' =>
          (((ht'.keep ((Below.refl w2.heap.size w2).alloc (Nat.le_refl _) _)).grown hgrow4 (fun k hk => by simp [Value.ownBlock] at hk; subst hk; obtain ⟨cs, hcs⟩ := htag; exact ⟨cs, 89, by decide, hcs⟩)).mono (by simp at hsz4; omega))
        have HTN := hide (show LevTrees w4 (ps ++ [gp]) (us ++ [t]) from ⟨HT2.out.1.snoc (fun q h1 h2 => KT _ _ (HT2.out.1.2 q h1 h2)) (KT _ _ HTR.out), by
          intro u' hu'
          rcases List.mem_append.1 hu' with h | h
          · exact HT2.out.2 u' h
          · simp at h; subst h; exact HFT.out⟩)
        have HON := hide (show w4.ownsRow w.heap.size 89 1 (.slice (some ⟨g4, 0, none⟩) (j + 1) cap4) (j + 1) ((ps ++ [gp]).map ptrV) by rw [List.map_append]; exact hown4)
        have HBN := hide ((HBL.out.alloc (by omega) _).grown hgrow4 (by simp; omega) (fun k hk => by simp [Value.ownBlock] at hk; subst hk; exact (HO2.out.lt g rfl).1))
        clear hown4 hgrow4 hat4 hlt4 htag KT
        go_wp2_with fail
        go_roundw
        case rel => exact ⟨j + 1, _, _, _, _, by omega, by go_num, rfl, by simp [hpl], HON, HTN, HF, HBN.out⟩
        case measure => simp [intOf]; omega
    · have HF : Hid (ls.all lvlB = true) := by have := HA.out; rwa [List.take_of_length_le (by omega)] at this
      have hlt' : ¬ (j : Int) < ls.length := by omega
      have hje : j = ls.length := by omega
      subst hje
      go_wp2_with fail
      refine bodyPost_ret (results_tmp2 Tryz.results38 _ _ _) rfl ?_
      exact ⟨⟨some ⟨g, 0, none⟩, ls.length, gc, by rw [HF.out]; rfl, fun _ => ⟨rfl, show LevRow _ _ _ from ⟨ps, us, hpl, PtrRow.own HO.out hpl.symm, HT.out⟩⟩⟩, hbel⟩
end Go.Proofs.YtlhhdhmhncjilaaGreat
