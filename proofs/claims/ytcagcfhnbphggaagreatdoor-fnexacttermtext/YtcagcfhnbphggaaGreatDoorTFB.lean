/- What the specification's l1Trees answers, with the trees held against the levels. -/
import Derived.Test.YtcagcfhnbphggaaGreatDoorTSpB
namespace Go.Proofs.YtcagcfhnbphggaaGreatDoor
open Go.ChangeShapes Go.WideShapes Go.ChangeAt Go.RowKit

/-- The tree of a level. -/
def LvTree (ns : List Nd) (t : Tr) : Prop := ns = t.flat 0 ∧ t.ok ∧ t.names [] = namesOf ns ∧ t.cnt = ns.length
/-- The first j levels and their trees. -/
def LvRel (ls : List (List Nd)) (us : List Tr) (j : Nat) : Prop := us.length = j ∧ ∀ q (h1 : q < ls.length) (h2 : q < us.length), LvTree ls[q] us[q]
theorem lvrel_nil (ls : List (List Nd)) : LvRel ls [] 0 := ⟨rfl, fun q _ h => by simp at h⟩
theorem lvrel_snoc {ls : List (List Nd)} {us : List Tr} {j : Nat} (hj : j < ls.length) (h : LvRel ls us j) {t : Tr} (ht : LvTree ls[j] t) : LvRel ls (us ++ [t]) (j + 1) := by
  obtain ⟨h1, h2⟩ := h
  refine ⟨by simp [h1], fun q hq hq2 => ?_⟩
  by_cases e : q < us.length
  · rw [List.getElem_append_left e]; exact h2 q hq e
  · have h3 : q = j := by simp at hq2; omega
    subst h3
    rw [List.getElem_append_right (by omega)]
    simp only [h1, Nat.sub_self, List.getElem_cons_zero]
    exact ht
/-- A row of pointers whose block is among those that Q lets by. -/
def PtrRowQ (Q : Nat → Prop) (w : World) (v : Value) (ps : List Nat) : Prop :=
  ∃ a cap, v = .slice a ps.length cap ∧ ps.length ≤ cap ∧ cap ≤ maxLen ∧ (0 < ps.length → ∃ b off, a = some ⟨b, off, none⟩ ∧ Q b ∧ ∀ j (h : j < ps.length), w.cell? ⟨b, off + j, none⟩ = some (ptrV ps[j]))
theorem PtrRowQ.row {Q : Nat → Prop} {w : World} {v : Value} {ps : List Nat} (h : PtrRowQ Q w v ps) : PtrRow w v ps := by
  obtain ⟨a, cap, h1, h2, h3, h4⟩ := h
  refine ⟨a, cap, h1, h2, h3, fun h0 => ?_⟩
  obtain ⟨b, off, h5, _, h6⟩ := h4 h0
  exact ⟨b, off, h5, h6⟩
/-- Carried to another world: each block that Q lets by keeps its cells, and R lets it by. -/
theorem PtrRowQ.to {Q R : Nat → Prop} {w w' : World} {v : Value} {ps : List Nat} (h : PtrRowQ Q w v ps) (hw : ∀ b, Q b → b < w.heap.size → R b ∧ ∀ o u, w.cell? ⟨b, o, none⟩ = some u → w'.cell? ⟨b, o, none⟩ = some u) : PtrRowQ R w' v ps := by
  obtain ⟨a, cap, h1, h2, h3, h4⟩ := h
  refine ⟨a, cap, h1, h2, h3, fun h0 => ?_⟩
  obtain ⟨b, off, h5, hq, h6⟩ := h4 h0
  obtain ⟨hr, hc⟩ := hw b hq (lt_cell (h6 0 h0))
  exact ⟨b, off, h5, hr, fun j hj => hc _ _ (h6 j hj)⟩
theorem PtrRowQ.own {w : World} {base : Nat} {e : TypeId} {v : Value} {n : Nat} {ps : List Nat} (h : w.ownsRow base e 1 v n (ps.map ptrV)) (hn : n = ps.length) : PtrRowQ (fun b => base ≤ b) w v ps := by
  subst hn
  rcases h.2 with ⟨rfl, h0⟩ | ⟨g, cap, cur, rfl, hbg, hg, hnc, hcm, hcs, htake⟩
  · exact ⟨none, 0, by rw [h0], by omega, by unfold maxLen; omega, fun h => by omega⟩
  · refine ⟨_, _, rfl, hnc, hcm, fun _ => ⟨g, 0, rfl, hbg, fun j hj => ?_⟩⟩
    rw [Nat.zero_add, h.cellAt j (by omega), List.getElem?_map, List.getElem?_eq_getElem hj]; rfl
/-- A row of levels as trees. -/
def LevRowF (Q : Nat → Prop) (w : World) (v : Value) (ls : List (List Nd)) : Prop := ∃ ps us, ps.length = ls.length ∧ PtrRowQ Q w v ps ∧ LevTrees w ps us ∧ LvRel ls us ls.length
theorem LevRowF.keep {Q : Nat → Prop} {w w' : World} (hb : Below w.heap.size w w') {v : Value} {ls : List (List Nd)} (h : LevRowF Q w v ls) : LevRowF Q w' v ls := by
  obtain ⟨ps, us, h1, h2, h3, h4⟩ := h
  exact ⟨ps, us, h1, h2.to (fun b hq _ => ⟨hq, fun o u hu => keep_cell hb hu⟩), h3.keep hb, h4⟩
theorem LevRowF.row {Q : Nat → Prop} {w : World} {v : Value} {ls : List (List Nd)} (h : LevRowF Q w v ls) : LevRow w v ls.length := by
  obtain ⟨ps, us, h1, h2, h3, h4⟩ := h
  exact ⟨ps, us, h1, h2.row, h3⟩

set_option maxRecDepth 20000 in
set_option maxHeartbeats 2000000 in
theorem l1TreesF_any (v : Value) (ls : List (List Nd)) (w : World) (hl : LevsAt w v ls) (hz : ∀ l ∈ ls, LvLens l) (hlen : ls.length ≤ 1048576) :
    Calls Tryz.prog 42 #[v] w fun e w' => (∃ a n cap, e = .returned (.tuple #[.slice a n cap, .bool (ls.all lvlB)]) ∧ (ls.all lvlB = true → n = ls.length ∧ LevRowF (fun b => w.heap.size ≤ b) w' (.slice a n cap) ls)) ∧ Below w.heap.size w w' := by
  obtain ⟨i82, hi82, hz82, hs82, hb82⟩ := info_parts Tryz.info69
  obtain ⟨a, cap, rfl, hlc, hcm, hc⟩ := hl
  have HC : Hid (0 < ls.length → ∃ b off, a = some ⟨b, off, none⟩ ∧ ∀ i (h : i < ls.length), ∃ u, w.cell? ⟨b, off + i, none⟩ = some u ∧ NodesAt w u ls[i]) := hc
  have HZ := hide hz
  unfold maxLen at hcm
  clear hc hz
  have hrow0 := World.ownsRow_lit (base := w.heap.size) (e := 69) (size := 1) w #[] 0 (Nat.le_refl _) (by unfold maxLen; omega) rfl
  have HR0 := hide hrow0
  clear hrow0
  go_enter Tryz.func42, Tryz.ntmps42
  go_wp2_with fail
  go_loopw [4, 5] (fun o i wr => ∃ (j g gc : Nat) (ps : List Nat) (us : List Tr), j ≤ ls.length ∧ i = .int .i64 j ∧ o = .slice (some ⟨g, 0, none⟩) j gc ∧ ps.length = j ∧ Hid (wr.ownsRow w.heap.size 69 1 (.slice (some ⟨g, 0, none⟩) j gc) j (ps.map ptrV)) ∧ Hid (LevTrees wr ps us) ∧ Hid (LvRel ls us j) ∧ Hid ((ls.take j).all lvlB = true) ∧ Below w.heap.size w wr) (fun _ i _ => ls.length - (intOf i).toNat)
  case atStart => exact ⟨0, _, _, [], [], by omega, rfl, rfl, rfl, HR0.out, ⟨⟨rfl, fun j h => by simp at h⟩, by simp⟩, lvrel_nil ls, by simp [Hid], bel_alloc (Below.refl _ _) _⟩
  case round =>
    obtain ⟨j, g, gc, ps, us, hj, rfl, rfl, hpl, HO, HT, HLR, HA, hbel⟩ := hrel
    clear HR0
    by_cases hlt : j < ls.length
    · obtain ⟨b, off, rfl, hc⟩ := HC.out (by omega)
      obtain ⟨u, c1, hnu⟩ := hc j hlt
      have c1' := keep_cell hbel c1
      have HNU := hide (hnu.keep hbel)
      have HSZ := hide (HZ.out ls[j] (by simp))
      have HTK := hide (all_take_succ hlt HA.out)
      have HN := hide (all_not_at hlt)
      have HRN := hide (fun t (ht : LvTree ls[j] t) => lvrel_snoc hlt HLR.out ht)
      have hlt' : (j : Int) < ls.length := by omega
      clear hc c1
      generalize ls[j] = ns at *
      obtain ⟨ua, uc, rfl, _, _, _⟩ := hnu
      go_wp2_with fail
      refine (l1Tree_any _ ns _ HNU.out HSZ.out).mono ?_
      rintro e w2 ⟨(⟨hB, rfl⟩ | ⟨hB, gp, t, rfl, htr, hfl, hok, hnm, hcn⟩), hb2⟩
      · have HF : Hid (ls.all lvlB = false) := HN.out hB
        have HBL := hide (hbel.trans (hb2.mono hbel.size))
        clear hb2
        go_wp2_with (go_at_call 63; refine (none_none _).mono ?_; rintro e w' ⟨rfl, rfl⟩)
        refine bodyPost_ret (results_tmp2 Tryz.results42 _ _ _) rfl ?_
        exact ⟨⟨some ⟨g, 0, none⟩, j, gc, by rw [HF.out]; rfl, fun h => by rw [HF.out] at h; cases h⟩, HBL.out⟩
      · have HF := hide (HTK.out hB)
        have HFT := hide (fits_of hB hnm hcn)
        have HRL := hide (HRN.out t ⟨hfl, hok, hnm, hcn⟩)
        have HO2 := hide (row_keep hb2 HO.out)
        have HT2 := hide (HT.out.keep hb2)
        have HTR := hide htr
        have HBL := hide (hbel.trans (hb2.mono hbel.size))
        have hsz2 := hb2.size
        have hbs := hbel.size
        clear hb2 hnm hcn htr hB hfl hok
        go_wp2_with (first
          | (go_at_call 63; refine (none_some _ _).mono ?_; rintro e w' ⟨rfl, hw⟩; have hw := hw.symm; subst hw)
          | (at_builtin; refine wpList_append_lies _ rfl _ _ 60 rfl w.heap.size 69 i82 (.pointer none) 1 8 Tryz.underlying60 hi82 hz82 hs82 hb82 rfl (by omega) (.slice (some ⟨g, 0, none⟩) j gc) j (ps.map ptrV) rfl (HO2.out.alloc _) ⟨w2.heap.size, 0, none⟩ 1 1 [.pointer (some ⟨gp, 0, none⟩)] rfl rfl ?c1 ?c2 (by omega) ?c3 ?c4 ?c5 (w2.heap.size + 1) (by simp) ?_))
        case c1 => exact cell_one_new _ _ _
        case c2 => first | rfl | (intro u hu; simp at hu; subst hu; rfl)
        case c3 => unfold maxLen; omega
        case c4 => omega
        case c5 => simp; omega
        intro g4 cap4 w4 hown4 hgrow4 hat4 hlt4
        have htag := row_tag (HO2.out.alloc (.cells #[.pointer (some ⟨gp, 0, none⟩)] 69))
        have hsz4 := hgrow4.size
        have KT : ∀ (p : Nat) (t' : Tr), TreeAt w2.heap.size w2 p t' → TreeAt w4.heap.size w4 p t' := fun p t' ht' =>
          (((ht'.keep ((Below.refl w2.heap.size w2).alloc (Nat.le_refl _) _)).grown hgrow4 (fun k hk => by simp [Value.ownBlock] at hk; subst hk; obtain ⟨cs, hcs⟩ := htag; exact ⟨cs, 69, by decide, hcs⟩)).mono (by simp at hsz4; omega))
        have HTN := hide (show LevTrees w4 (ps ++ [gp]) (us ++ [t]) from ⟨HT2.out.1.snoc (fun q h1 h2 => KT _ _ (HT2.out.1.2 q h1 h2)) (KT _ _ HTR.out), by
          intro u' hu'
          rcases List.mem_append.1 hu' with h | h
          · exact HT2.out.2 u' h
          · simp at h; subst h; exact HFT.out⟩)
        have HON := hide (show w4.ownsRow w.heap.size 69 1 (.slice (some ⟨g4, 0, none⟩) (j + 1) cap4) (j + 1) ((ps ++ [gp]).map ptrV) by rw [List.map_append]; exact hown4)
        have HBN := hide ((HBL.out.alloc (by omega) _).grown hgrow4 (by simp; omega) (fun k hk => by simp [Value.ownBlock] at hk; subst hk; exact (HO2.out.lt g rfl).1))
        clear hown4 hgrow4 hat4 hlt4 htag KT
        go_wp2_with fail
        go_roundw
        case rel => exact ⟨j + 1, _, _, _, _, by omega, by go_num, rfl, by simp [hpl], HON, HTN, HRL, HF, HBN.out⟩
        case measure => simp [intOf]; omega
    · have HF : Hid (ls.all lvlB = true) := by have := HA.out; rwa [List.take_of_length_le (by omega)] at this
      have hlt' : ¬ (j : Int) < ls.length := by omega
      have hje : j = ls.length := by omega
      subst hje
      go_wp2_with fail
      refine bodyPost_ret (results_tmp2 Tryz.results42 _ _ _) rfl ?_
      exact ⟨⟨some ⟨g, 0, none⟩, ls.length, gc, by rw [HF.out]; rfl, fun _ => ⟨rfl, show LevRowF _ _ _ _ from ⟨ps, us, hpl, PtrRowQ.own HO.out hpl.symm, HT.out, HLR.out⟩⟩⟩, hbel⟩
end Go.Proofs.YtcagcfhnbphggaaGreatDoor
