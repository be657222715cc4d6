/- What the program's spine and Spine answer. -/
import Derived.Test.YtbgibiongnhjoaaGreatSiA
import Derived.Test.YtbgibiongnhjoaaGreatApJ
namespace Go.Proofs.YtbgibiongnhjoaaGreat
open Go.ChangeShapes Go.WideShapes Go.ChangeAt Go.RowKit

theorem spine_stop (T : Tt) (h : T.hd.k ≠ 4) : spineT T = (T, []) := by
  cases T with
  | t0 hd => rfl
  | t1 hd a => rfl
  | t2 hd a b => unfold spineT; rw [if_neg (show ¬ hd.k = 4 from h)]
  | t3 hd a b c => rfl
theorem spine_go (h : Hd) (a b : Tt) (hk : h.k = 4) : spineT (.t2 h a b) = ((spineT a).1, (spineT a).2 ++ [b]) := by
  conv => lhs; unfold spineT
  rw [if_pos hk]
theorem app_two {T : Tt} (hP : T.all nodeP) (h : T.hd.k = 4) : ∃ hd a b, T = .t2 hd a b ∧ hd.k = 4 ∧ a.all nodeP ∧ b.all nodeP := by
  have h1 := (hd_all T hP).1
  rw [h] at h1
  have h2 : tkidsN 4 = 2 := by decide
  cases T with
  | t0 hd => simp [Tt.kids] at h1; omega
  | t1 hd a => simp [Tt.kids] at h1; omega
  | t2 hd a b => exact ⟨hd, a, b, rfl, h, hP.2.1, hP.2.2⟩
  | t3 hd a b c => simp [Tt.kids] at h1; omega
theorem spine_all {P : Hd → Nat → Prop} : ∀ T : Tt, T.all P → (spineT T).1.all P ∧ ∀ x ∈ (spineT T).2, x.all P
  | .t0 h, hp => ⟨hp, fun x hx => by simp [spineT] at hx⟩
  | .t1 h a, hp => ⟨hp, fun x hx => by simp [spineT] at hx⟩
  | .t2 h a b, hp => by
    obtain ⟨h1, h2⟩ := spine_all a hp.2.1
    unfold spineT
    split
    · refine ⟨h1, fun x hx => ?_⟩
      rcases List.mem_append.1 hx with hx | hx
      · exact h2 x hx
      · simp only [List.mem_singleton] at hx
        subst hx
        exact hp.2.2
    · exact ⟨hp, fun x hx => by simp at hx⟩
  | .t3 h a b c, hp => ⟨hp, fun x hx => by simp [spineT] at hx⟩
theorem spine_cnt : ∀ T : Tt, (spineT T).1.cnt ≤ T.cnt ∧ (spineT T).2.length ≤ T.cnt ∧ ∀ x ∈ (spineT T).2, x.cnt ≤ T.cnt
  | .t0 h => ⟨Nat.le_refl _, by simp [spineT], fun x hx => by simp [spineT] at hx⟩
  | .t1 h a => ⟨Nat.le_refl _, by simp [spineT], fun x hx => by simp [spineT] at hx⟩
  | .t2 h a b => by
    obtain ⟨h1, h2, h3⟩ := spine_cnt a
    have hb := b.cnt_pos
    unfold spineT
    split
    · simp only [Tt.cnt]
      refine ⟨by omega, by simp; omega, fun x hx => ?_⟩
      rcases List.mem_append.1 hx with hx | hx
      · have := h3 x hx; omega
      · simp only [List.mem_singleton] at hx
        subst hx
        omega
    · exact ⟨Nat.le_refl _, by simp, fun x hx => by simp at hx⟩
  | .t3 h a b c => ⟨Nat.le_refl _, by simp [spineT], fun x hx => by simp [spineT] at hx⟩
/-- What spine answers. -/
def SpnOut (B : Nat) (L : List (Nk × Nat × Nat)) (T : Tt) (e : Ending) (w' : World) : Prop :=
  ∃ (b : Nat) (v : Value) (ps : List Nat), e = .returned (.tuple #[.pointer (some ⟨b, 0, none⟩), v]) ∧ IsT L (spineT T).1 b ∧ ps.length = (spineT T).2.length ∧ w'.ownsRow B 80 1 v (spineT T).2.length (ps.map ptrV) ∧ ∀ i (h1 : i < ps.length) (h2 : i < (spineT T).2.length), IsT L (spineT T).2[i] ps[i]
set_option maxRecDepth 20000 in
set_option maxHeartbeats 8000000 in
theorem spine_any (base Sb mb gb clock : Nat) (L : List (Nk × Nat × Nat)) (Z : Nat → Zs) (H : Nat → Bool) (T : Tt) (b : Nat) (w : World) (hs : St base w Sb mb gb clock L Z H) (hbase : base ≤ w.heap.size) (hT : IsT L T b) (hP : T.all nodeP) :
    Calls Tryz.prog 54 #[.pointer (some ⟨b, 0, none⟩)] w fun e w' => SpnOut w.heap.size L T e w' ∧ Below w.heap.size w w' := by
  obtain ⟨ip, hip, hzp, hsp1, hbp⟩ := info_parts Tryz.info80
  have hcnt := (ist_lt hs hT).1
  have HS := hide hs
  have HBS := hide hbase
  have HT := hide hT
  have HP := hide hP
  clear hs hbase hT hP
  go_enter Tryz.func54, Tryz.ntmps54
  go_wp2_with fail
  go_loopg [0, 4] T.cnt (fun k nv av wr => ∃ (C : Tt) (b : Nat) (acc : List Tt) (ps : List Nat) (ad : Option Addr) (cp : Nat), nv = .pointer (some ⟨b, 0, none⟩) ∧ av = .slice ad acc.length cp ∧ acc.length + C.cnt ≤ T.cnt ∧ C.cnt = k ∧ Hid (IsT L C b) ∧ Hid (C.all nodeP) ∧ Hid (spineT T = ((spineT C).1, (spineT C).2 ++ acc.reverse)) ∧ Hid (ps.length = acc.length) ∧ Hid (wr.ownsRow w.heap.size 80 1 (.slice ad acc.length cp) acc.length (ps.map ptrV)) ∧ Hid (∀ i (h1 : i < ps.length) (h2 : i < acc.length), IsT L acc[i] ps[i]) ∧ Hid (Below w.heap.size w wr))
  case atStart => exact ⟨T, b, [], [], none, 0, rfl, rfl, by simp, rfl, HT, HP, by show _ = _; simp, rfl, World.ownsRow_nil _ _ _ _, fun i h => by simp at h, Below.refl _ _⟩
  case round =>
    obtain ⟨C, b, acc, ps, ad, cp, rfl, rfl, hac, rfl, HIC, HPC, HSP, HPL, HO, HIX, HBJ⟩ := hrel
    have hwsz := HBJ.out.size
    obtain ⟨qs, c, hql, hm, hqk⟩ := ist_open HIC.out
    have hsw := HS.out.keep HBJ.out HBS.out
    obtain ⟨lv, ls, nb, _⟩ := (hsw.ents _ hm).node
    have nb : NbAt wr b (tmL (keyP C.hd qs) lv (Z b) (H b)) := nb
    have a0 : wr.cell? ⟨b, 0, none⟩ = some (.int .i64 C.hd.k) := by rw [nb.cell 0 (by omega)]; rfl
    have hAl := lt_cell a0
    by_cases h4 : C.hd.k = 4
    · obtain ⟨hd, a, x, rfl, hk4, hPa, hPx⟩ := app_two HPC.out h4
      obtain ⟨p0, p1, rfl⟩ : ∃ p0 p1, qs = [p0, p1] := by
        match qs, hql with
        | [p0, p1], _ => exact ⟨p0, p1, rfl⟩
      have a5 : wr.cell? ⟨b, 5, none⟩ = some (.pointer (some ⟨p0, 0, none⟩)) := by rw [nb.cell 5 (by omega)]; rfl
      have a6 : wr.cell? ⟨b, 6, none⟩ = some (.pointer (some ⟨p1, 0, none⟩)) := by rw [nb.cell 6 (by omega)]; rfl
      have HI0 : Hid (IsT L a p0) := hqk 0 (by simp) (by simp [Tt.kids])
      have HI1 : Hid (IsT L x p1) := hqk 1 (by simp) (by simp [Tt.kids])
      have HPa := hide hPa
      have q4 : ((Tt.t2 hd a x).hd.k == 4) = true := by simp [h4]
      have hcx := x.cnt_pos
      simp only [Tt.cnt] at hac
      have HCA : Hid (a.cnt ≤ T.cnt - (acc.length + 1)) := by show _ ≤ _; omega
      have HCK2 : Hid (a.cnt < (Tt.t2 hd a x).cnt) := by show a.cnt < a.cnt + x.cnt + 1; omega
      have HSP2 : Hid (spineT T = ((spineT a).1, (spineT a).2 ++ (acc ++ [x]).reverse)) := by
        show _ = _
        rw [HSP.out, spine_go hd a x hk4]
        simp
      obtain ⟨W5, hW5⟩ : ∃ W5, W5 = wr.alloc (.cells #[.pointer (some ⟨p1, 0, none⟩)] 80) := ⟨_, rfl⟩
      have hb5 : Below wr.heap.size wr W5 := by rw [hW5]; exact bel_alloc (Below.refl _ _) _
      have hh5 : W5.heap[wr.heap.size]? = some (.cells #[.pointer (some ⟨p1, 0, none⟩)] 80 (0, 0)) := by rw [hW5]; exact heap_alloc_new wr _
      have HO5 := hide (row_keep hb5 HO.out)
      have hs5 : W5.heap.size = wr.heap.size + 1 := by rw [hW5]; simp
      have HB5 := hide (bel_trans HBJ.out hb5)
      have hbne : ∀ g, (Value.slice ad acc.length cp).ownBlock = some g → g ≠ b := fun g hg e => by
        subst e
        rcases HO.out.2 with ⟨h3, h0⟩ | ⟨g2, cap', cur, h3, _, hg4, _⟩
        · rw [h3] at hg; simp [Value.ownBlock] at hg
        · rw [h3] at hg
          have e : g2 = g := by simpa [Value.ownBlock] using hg
          subst e
          obtain ⟨cs, hcs⟩ := nb_heap nb
          rw [hcs] at hg4
          have := Option.some.inj hg4
          simp at this
      have HBN := hide hbne
      have a5b := keep_cell hb5 a5
      clear hqk hm nb h4 hPa hPx hql hsw hb5 hbne HSP
      go_wp2_with (first
        | (at_builtin
           rw [← hW5]
           refine wpList_append_lies _ rfl _ _ 85 rfl w.heap.size 80 ip (.pointer none) 1 8 Tryz.underlying85 hip hzp hsp1 hbp rfl (by omega) (.slice ad acc.length cp) acc.length (ps.map ptrV) rfl HO5.out ⟨wr.heap.size, 0, none⟩ 1 1 [.pointer (some ⟨p1, 0, none⟩)] rfl rfl (World.news_of_block (cs := #[.pointer (some ⟨p1, 0, none⟩)]) (t := 80) (fr := (0, 0)) hh5) (by intro u hu; simp at hu; rcases hu with rfl; rfl) (by omega) (by unfold maxLen; omega) (by omega) (by omega) W5.heap.size rfl ?_)
        | fail)
      intro g6 cap6 w6 hown6 hgrow6 hat6 hlt6
      rw [← hW5] at hgrow6
      have e5 : w6.cell? ⟨b, 5, none⟩ = some (.pointer (some ⟨p0, 0, none⟩)) := heap_cell (hgrow6.block b (by omega) (fun e => HBN.out b e.symm rfl)) a5b
      have le5 := lt_cell e5
      have HO6 : Hid (w6.ownsRow w.heap.size 80 1 (.slice (some ⟨g6, 0, none⟩) (acc ++ [x]).length cap6) (acc ++ [x]).length ((ps ++ [p1]).map ptrV)) := by
        show World.ownsRow _ _ _ _ _ _ _
        rw [List.map_append, List.length_append]
        exact hown6
      have HB6 : Hid (Below w.heap.size w w6) := HB5.out.grown hgrow6 (by omega) (fun k hk => (World.ownsRow.lt HO5.out k hk).1)
      have HPL6 : Hid ((ps ++ [p1]).length = (acc ++ [x]).length) := by show _ = _; rw [List.length_append, List.length_append, HPL.out]; rfl
      have HIX6 : Hid (∀ i (h1 : i < (ps ++ [p1]).length) (h2 : i < (acc ++ [x]).length), IsT L (acc ++ [x])[i] (ps ++ [p1])[i]) := fun i h1 h2 => by
        have hpl := HPL.out
        by_cases e : i < acc.length
        · have e1 : (acc ++ [x])[i] = acc[i] := List.getElem_append_left e
          have e2 : (ps ++ [p1])[i] = ps[i]'(by omega) := List.getElem_append_left (by omega)
          rw [e1, e2]
          exact HIX.out i (by omega) e
        · have ei : i = acc.length := by simp at h2; omega
          subst ei
          have e1 : (acc ++ [x])[acc.length] = x := by simp
          have e2 : (ps ++ [p1])[acc.length] = p1 := by simp [hpl]
          rw [e1, e2]
          exact HI1.out
      have hlenv : (acc ++ [x]).length = acc.length + 1 := by simp
      have HLN := hide hlenv
      clear hown6 hgrow6 hat6 hlt6 HO5 HB5 hh5 hW5 HIX a0 a5 a6 a5b hlenv
      go_wp2_with fail
      go_roundg a.cnt
      case rel => exact ⟨a, p0, acc ++ [x], ps ++ [p1], some ⟨g6, 0, none⟩, cap6, rfl, by rw [HLN.out], by have := HCA.out; rw [HLN.out]; omega, rfl, HI0, HPa, HSP2, HPL6, HO6, HIX6, HB6⟩
      case measure => exact HCK2.out
    · have q4 : (C.hd.k == 4) = false := by simp [h4]
      have HSC : Hid (spineT T = (C, acc.reverse)) := by show _ = _; rw [HSP.out, spine_stop C h4]; simp
      have hpl := HPL.out
      have HRV := hide (revOwn w.heap.size (.slice ad acc.length cp) ps wr (by rw [hpl]; exact HO.out) (by omega))
      clear hqk hm nb h4 hql hsw
      go_wp2_with fail
      refine HRV.out.mono ?_
      rintro e w1 ⟨rfl, ho1, hg1⟩
      have HO1 := hide ho1
      have HB1 : Hid (Below w.heap.size w w1) := HBJ.out.grown hg1 hwsz (fun k hk => (World.ownsRow.lt HO.out k hk).1)
      clear ho1 hg1 HRV
      go_wp2_with fail
      refine bodyPost_ret (v := .tuple #[.pointer (some ⟨b, 0, none⟩), .slice ad acc.length cp]) (by simp [results, Tryz.results54, go_sem]) rfl ⟨⟨b, .slice ad acc.length cp, ps.reverse, rfl, ?_, ?_, ?_, ?_⟩, HB1.out⟩
      · rw [HSC.out]; exact HIC.out
      · rw [HSC.out]; simp; exact HPL.out
      · rw [HSC.out]
        have h := HO1.out
        rw [HPL.out] at h
        simpa using h
      · rw [HSC.out]
        intro i h1 h2
        simp only [List.length_reverse] at h1 h2
        have hpl := HPL.out
        rw [List.getElem_reverse, List.getElem_reverse]
        have h := HIX.out (acc.length - 1 - i) (by omega) (by omega)
        have e : ps.length - 1 - i = acc.length - 1 - i := by omega
        simp only [e]
        exact h
end Go.Proofs.YtbgibiongnhjoaaGreat
