/- What the specification's l1Text answers at a tree: its text. -/
import Derived.Test.YtcagcfhnbphggaaGreatDoorTxT
import Derived.Test.YtcagcfhnbphggaaGreatDoorSpec
namespace Go.Proofs.YtcagcfhnbphggaaGreatDoor
open Go.ChangeShapes Go.WideShapes Go.ChangeAt Go.RowKit

/-- So many around. -/
def sAr : Nat → It → It
  | 0, x => x
  | m + 1, x => sAround (sAr m x)
theorem sAr_in (m : Nat) (x : It) : sAr m (sAround x) = sAr (m + 1) x := by
  induction m with
  | zero => rfl
  | succ m ih => show sAround (sAr m (sAround x)) = _; rw [ih]; rfl
def It.isSucc : It → Bool
  | .succ _ _ => true
  | _ => false
theorem sAr_plain {x : It} (h : x.isSucc = false) : ∀ m, sAr (m + 1) x = .succ (m + 1) x
  | 0 => by show sAround x = _; cases x <;> first | rfl | cases h
  | m + 1 => by show sAround (sAr (m + 1) x) = _; rw [sAr_plain h m]; rfl
theorem text_zeros (m : Nat) : (sAr m .zero).text = dec m := by
  cases m with
  | zero => show (⟨#[48]⟩ : ByteArray) = dec 0; unfold dec; rw [Lib.decDigits_one (by omega)]; rfl
  | succ m => rw [sAr_plain rfl]; rfl
theorem text_around {x : It} (h : x.isSucc = false) (h0 : x.isZero = false) (m : Nat) : (sAr (m + 1) x).text = x.text ++ ⟨#[43]⟩ ++ dec (m + 1) := by
  rw [sAr_plain h]; simp [It.text, h0]

theorem TreeAt.leafC {B : Nat} {w : World} {g : Nat} {k : Int} {s : ByteArray} (h : TreeAt B w g (.leaf k s)) : w.cell? ⟨g, 0, none⟩ = some (.int .i64 k) ∧ w.cell? ⟨g, 1, none⟩ = some (.string s) := by
  have h2 := h.2
  exact ⟨by rw [cell_of_row w g 0 _ _ _ h2]; rfl, by rw [cell_of_row w g 1 _ _ _ h2]; rfl⟩
theorem TreeAt.oneC {B : Nat} {w : World} {g : Nat} {k : Int} {s : ByteArray} {a : Tr} (h : TreeAt B w g (.one k s a)) : ∃ pa, w.cell? ⟨g, 0, none⟩ = some (.int .i64 k) ∧ w.cell? ⟨g, 2, none⟩ = some (.pointer (some ⟨pa, 0, none⟩)) ∧ TreeAt B w pa a := by
  obtain ⟨_, pa, h2, h3⟩ := h
  exact ⟨pa, by rw [cell_of_row w g 0 _ _ _ h2]; rfl, by rw [cell_of_row w g 2 _ _ _ h2]; rfl, h3⟩
theorem TreeAt.twoC {B : Nat} {w : World} {g : Nat} {k : Int} {s : ByteArray} {a b : Tr} (h : TreeAt B w g (.two k s a b)) : ∃ pa pb, w.cell? ⟨g, 0, none⟩ = some (.int .i64 k) ∧ w.cell? ⟨g, 1, none⟩ = some (.string s) ∧ w.cell? ⟨g, 2, none⟩ = some (.pointer (some ⟨pa, 0, none⟩)) ∧ w.cell? ⟨g, 3, none⟩ = some (.pointer (some ⟨pb, 0, none⟩)) ∧ TreeAt B w pa a ∧ TreeAt B w pb b := by
  obtain ⟨_, pa, pb, h2, h3, h4⟩ := h
  exact ⟨pa, pb, by rw [cell_of_row w g 0 _ _ _ h2]; rfl, by rw [cell_of_row w g 1 _ _ _ h2]; rfl, by rw [cell_of_row w g 2 _ _ _ h2]; rfl, by rw [cell_of_row w g 3 _ _ _ h2]; rfl, h3, h4⟩

/-- What is said of l1Text at a tree. -/
def STextAt (t : Tr) : Prop := ∀ (g : Nat) (w : World), TreeAt w.heap.size w g t → Calls Tryz.prog 28 #[.pointer (some ⟨g, 0, none⟩)] w fun e w' => e = .returned (.string t.it.text) ∧ Below w.heap.size w w'
theorem ret_str {a b : ByteArray} (h : a = b) : Ending.returned (.string a) = .returned (.string b) := by rw [h]

set_option maxRecDepth 20000 in
set_option maxHeartbeats 4000000 in
theorem stext_step (t : Tr) (hok : t.ok) (hc : t.cnt ≤ 64) (ih : ∀ u : Tr, u.ok → u.cnt < t.cnt → STextAt u) : STextAt t := by
  intro g w ht
  have HT := hide ht
  have HOK := hide hok
  have IH := hide ih
  clear ih ht
  go_enter Tryz.func28, Tryz.ntmps28
  go_wp2_with fail
  go_loopw [0, 3] (fun l i wr => ∃ (u : Tr) (g' m : Nat), l = .pointer (some ⟨g', 0, none⟩) ∧ i = .int .i64 m ∧ w = wr ∧ Hid (t.it = sAr m u.it) ∧ m + u.cnt = t.cnt ∧ Hid (TreeAt w.heap.size w g' u) ∧ Hid u.ok) (fun _ i _ => 64 - (intOf i).toNat)
  case atStart => exact ⟨t, g, 0, rfl, rfl, rfl, rfl, by omega, HT.out, HOK.out⟩
  case round =>
    obtain ⟨u, g', m, rfl, rfl, rfl, HI, hm, HU, HUO⟩ := hrel
    have hup := u.cnt_pos
    cases u with
    | one k s a =>
      obtain ⟨pa, c0, c2, ha⟩ := HU.out.oneC
      obtain ⟨rfl, _, hao⟩ := HUO.out
      have HA := hide ha
      have HAO := hide hao
      have HI2 : Hid (t.it = sAr (m + 1) a.it) := by show _ = _; rw [HI.out, ← sAr_in]; rfl
      simp only [Tr.cnt] at hm
      have hap := a.cnt_pos
      clear HU HUO HI ha hao hup
      go_wp2_with fail
      go_roundw
      case rel => exact ⟨a, pa, m + 1, rfl, by go_num, by first | rfl | trivial, HI2, by omega, HA, HAO⟩
      case measure => simp [intOf]; omega
    | leaf k s =>
      obtain ⟨c0, c1⟩ := HU.out.leafC
      obtain ⟨hk, _⟩ := HUO.out
      simp only [Tr.cnt] at hm
      rcases hk with rfl | rfl
      · have HX : Hid (t.it.text = dec m) := by show _ = _; rw [HI.out]; exact text_zeros m
        have HD := hide (l1Dec_any m (by omega) w)
        clear HU HUO HI hup
        go_wp2_with (first | (go_at_call 27; refine HD.out.mono ?_; rintro e w1 ⟨rfl, hb1⟩) | fail)
        go_ret
        exact ⟨ret_str HX.out.symm, hb1⟩
      · cases m with
        | zero =>
          have HX : Hid (t.it.text = s) := by show _ = _; rw [HI.out]; rfl
          clear HU HUO HI hup
          go_wp2_with fail
          go_ret
          exact ⟨ret_str HX.out.symm, Below.refl _ _⟩
        | succ m =>
          have hsz := params_short _ HUO.out s (by simp [Tr.it, It.params])
          have HX : Hid (t.it.text = s ++ ⟨#[43]⟩ ++ dec (m + 1)) := by show _ = _; rw [HI.out]; exact text_around rfl rfl m
          have HD := hide (l1Dec_any (m + 1) (by omega) w)
          change Hid (Calls Tryz.prog 27 #[.int .i64 (m + 1 : Nat)] w fun e w' => e = .returned (.string (dec (m + 1))) ∧ Below w.heap.size w w') at HD
          have ds := dec_size (show m + 1 < 100 by omega)
          generalize dec (m + 1) = dn at *
          have z1 : ∀ w, (Op.stringOp .add s (⟨#[43]⟩ : ByteArray)).run Tryz.prog w = .ok (.string (s ++ (⟨#[43]⟩ : ByteArray))) w := fun w => run_string_add_sum w _ _ (by show s.size + 1 ≤ _; omega)
          have z2 : ∀ w, (Op.stringOp .add (s ++ ⟨#[43]⟩ : ByteArray) dn).run Tryz.prog w = .ok (.string ((s ++ ⟨#[43]⟩ : ByteArray) ++ dn)) w := fun w => run_string_add_sum w _ _ (by rw [ByteArray.size_append]; show s.size + 1 + _ ≤ _; omega)
          clear HU HUO HI hup ds hsz
          go_wp2_with (first | (go_at_call 27; refine HD.out.mono ?_; rintro e w1 ⟨rfl, hb1⟩) | fail)
          go_ret
          exact ⟨ret_str HX.out.symm, hb1⟩
    | two k s a b =>
      obtain ⟨pa, pb, c0, c1, c2, c3, ha, hb⟩ := HU.out.twoC
      obtain ⟨hk, _, hao, hbo⟩ := HUO.out
      simp only [Tr.cnt] at hm
      have hap := a.cnt_pos
      have hbp := b.cnt_pos
      have hsa := It.text_size a.it (it_pos a) (by rw [it_cnt a hao]; omega) (params_short a hao)
      have hsb := It.text_size b.it (it_pos b) (by rw [it_cnt b hbo]; omega) (params_short b hbo)
      rw [it_cnt a hao] at hsa
      rw [it_cnt b hbo] at hsb
      have IHA : Hid (∀ w', Below w.heap.size w w' → Calls Tryz.prog 28 #[.pointer (some ⟨pa, 0, none⟩)] w' fun e w2 => e = .returned (.string a.it.text) ∧ Below w'.heap.size w' w2) := fun w' hb => IH.out a hao (by omega) pa w' ((ha.keep hb).mono hb.size)
      have IHB : Hid (∀ w', Below w.heap.size w w' → Calls Tryz.prog 28 #[.pointer (some ⟨pb, 0, none⟩)] w' fun e w2 => e = .returned (.string b.it.text) ∧ Below w'.heap.size w' w2) := fun w' hb2 => IH.out b hbo (by omega) pb w' ((hb.keep hb2).mono hb2.size)
      have hsa : a.it.text.size ≤ 3840 := by omega
      have hsb : b.it.text.size ≤ 3840 := by omega
      clear HU HUO ha hb hup IH HT HOK
      rcases hk with rfl | rfl
      · have HX0 : Hid ((Tr.two 3 s a b).it = .max a.it b.it) := by show _ = _; simp [Tr.it]
        rw [HX0.out] at HI
        generalize hx : a.it.text = x at *
        generalize hy : b.it.text = y at *
        have ht2 : (It.max a.it b.it).text = ⟨#[109, 97, 120, 40]⟩ ++ x ++ ⟨#[44]⟩ ++ y ++ ⟨#[41]⟩ := by simp only [It.text, hx, hy]
        obtain ⟨mm, hmm⟩ : ∃ mm : ByteArray, mm = ⟨#[109, 97, 120, 40]⟩ := ⟨_, rfl⟩
        have hms : mm.size = 4 := by rw [hmm]; rfl
        have z1 : ∀ w, (Op.stringOp .add (⟨#[109, 97, 120, 40]⟩ : ByteArray) x).run Tryz.prog w = .ok (.string ((⟨#[109, 97, 120, 40]⟩ : ByteArray) ++ x)) w := fun w => run_string_add_sum w _ _ (by rw [← hmm]; omega)
        have z2 : ∀ w, (Op.stringOp .add (⟨#[109, 97, 120, 40]⟩ ++ x : ByteArray) (⟨#[44]⟩ : ByteArray)).run Tryz.prog w = .ok (.string ((⟨#[109, 97, 120, 40]⟩ ++ x : ByteArray) ++ (⟨#[44]⟩ : ByteArray))) w := fun w => run_string_add_sum w _ _ (by rw [← hmm, ByteArray.size_append, show (⟨#[44]⟩ : ByteArray).size = 1 from rfl]; omega)
        have z3 : ∀ w, (Op.stringOp .add (⟨#[109, 97, 120, 40]⟩ ++ x ++ ⟨#[44]⟩ : ByteArray) y).run Tryz.prog w = .ok (.string ((⟨#[109, 97, 120, 40]⟩ ++ x ++ ⟨#[44]⟩ : ByteArray) ++ y)) w := fun w => run_string_add_sum w _ _ (by rw [← hmm, ByteArray.size_append, ByteArray.size_append, show (⟨#[44]⟩ : ByteArray).size = 1 from rfl]; omega)
        have z4 : ∀ w, (Op.stringOp .add (⟨#[109, 97, 120, 40]⟩ ++ x ++ ⟨#[44]⟩ ++ y : ByteArray) (⟨#[41]⟩ : ByteArray)).run Tryz.prog w = .ok (.string ((⟨#[109, 97, 120, 40]⟩ ++ x ++ ⟨#[44]⟩ ++ y : ByteArray) ++ (⟨#[41]⟩ : ByteArray))) w := fun w => run_string_add_sum w _ _ (by rw [← hmm, ByteArray.size_append, ByteArray.size_append, ByteArray.size_append, show (⟨#[44]⟩ : ByteArray).size = 1 from rfl, show (⟨#[41]⟩ : ByteArray).size = 1 from rfl]; omega)
        have hbs : (⟨#[109, 97, 120, 40]⟩ ++ x ++ ⟨#[44]⟩ ++ y ++ ⟨#[41]⟩ : ByteArray).size ≤ 10000 := by rw [← hmm, ByteArray.size_append, ByteArray.size_append, ByteArray.size_append, ByteArray.size_append, show (⟨#[44]⟩ : ByteArray).size = 1 from rfl, show (⟨#[41]⟩ : ByteArray).size = 1 from rfl]; omega
        clear hms hmm hsa hsb
        go_wp2_with fail
        go_region_held3 (fun w' => w'.cell? ⟨g', 0, none⟩ = some (.int .i64 3) ∧ w'.cell? ⟨g', 2, none⟩ = some (.pointer (some ⟨pa, 0, none⟩)) ∧ w'.cell? ⟨g', 3, none⟩ = some (.pointer (some ⟨pb, 0, none⟩)))
          (first
            | go_keep
            | (go_split_ands; exact ⟨keep_cell hb2 (by assumption), keep_cell hb2 (by assumption), keep_cell hb2 (by assumption)⟩)
            | (go_split_ands; exact ⟨keep_cell hb1 (by assumption), keep_cell hb1 (by assumption), keep_cell hb1 (by assumption)⟩)
            | fail)
          (first
            | (go_at_call_of 28 (Value.pointer (some ⟨pa, 0, none⟩)); refine (IHA.out _ (by exact (Below.refl _ _).drew)).mono ?_; rintro e w1 ⟨rfl, hb1⟩)
            | (go_at_call_of 28 (Value.pointer (some ⟨pb, 0, none⟩)); refine (IHB.out _ (by exact (Below.refl _ _).drew.trans hb1)).mono ?_; rintro e w2 ⟨rfl, hb2⟩)
            | fail)
        all_goals go_split_ands
        all_goals
          have HB2 := hide (show Below w.heap.size w w2 from bel_trans ((Below.refl _ _).drew.trans hb1) hb2)
          have c02 : w2.cell? ⟨g', 0, none⟩ = some (.int .i64 3) := keep_cell hb2 (keep_cell hb1 c0)
          clear hb1 hb2 z1 z2 z3 z4
          generalize ⟨#[109, 97, 120, 40]⟩ ++ x ++ ⟨#[44]⟩ ++ y ++ ⟨#[41]⟩ = bs at *
          cases m with
          | zero =>
            have HX : Hid (t.it.text = bs) := by show _ = _; rw [HI.out]; exact ht2
            go_wp2_with fail
            go_ret
            exact ⟨ret_str HX.out.symm, HB2.out⟩
          | succ m =>
            have HX : Hid (t.it.text = bs ++ ⟨#[43]⟩ ++ dec (m + 1)) := by show _ = _; rw [HI.out, text_around rfl rfl m, ht2]
            have HD := hide (l1Dec_any (m + 1) (by omega) w2)
            change Hid (Calls Tryz.prog 27 #[.int .i64 (m + 1 : Nat)] w2 fun e w' => e = .returned (.string (dec (m + 1))) ∧ Below w2.heap.size w2 w') at HD
            have ds := dec_size (show m + 1 < 100 by omega)
            generalize dec (m + 1) = dn at *
            have z1 : ∀ w, (Op.stringOp .add bs (⟨#[43]⟩ : ByteArray)).run Tryz.prog w = .ok (.string (bs ++ (⟨#[43]⟩ : ByteArray))) w := fun w => run_string_add_sum w _ _ (by show bs.size + 1 ≤ _; omega)
            have z2 : ∀ w, (Op.stringOp .add (bs ++ ⟨#[43]⟩ : ByteArray) dn).run Tryz.prog w = .ok (.string ((bs ++ ⟨#[43]⟩ : ByteArray) ++ dn)) w := fun w => run_string_add_sum w _ _ (by rw [ByteArray.size_append]; show bs.size + 1 + _ ≤ _; omega)
            clear ds hbs
            go_wp2_with (first | (go_at_call 27; refine HD.out.mono ?_; rintro e w3 ⟨rfl, hb3⟩) | fail)
            go_ret
            exact ⟨ret_str HX.out.symm, bel_trans HB2.out hb3⟩
      · have HX0 : Hid ((Tr.two 4 s a b).it = .imax a.it b.it) := by show _ = _; simp [Tr.it]
        rw [HX0.out] at HI
        generalize hx : a.it.text = x at *
        generalize hy : b.it.text = y at *
        have ht2 : (It.imax a.it b.it).text = ⟨#[105, 109, 97, 120, 40]⟩ ++ x ++ ⟨#[44]⟩ ++ y ++ ⟨#[41]⟩ := by simp only [It.text, hx, hy]
        obtain ⟨mm, hmm⟩ : ∃ mm : ByteArray, mm = ⟨#[105, 109, 97, 120, 40]⟩ := ⟨_, rfl⟩
        have hms : mm.size = 5 := by rw [hmm]; rfl
        have z1 : ∀ w, (Op.stringOp .add (⟨#[105, 109, 97, 120, 40]⟩ : ByteArray) x).run Tryz.prog w = .ok (.string ((⟨#[105, 109, 97, 120, 40]⟩ : ByteArray) ++ x)) w := fun w => run_string_add_sum w _ _ (by rw [← hmm]; omega)
        have z2 : ∀ w, (Op.stringOp .add (⟨#[105, 109, 97, 120, 40]⟩ ++ x : ByteArray) (⟨#[44]⟩ : ByteArray)).run Tryz.prog w = .ok (.string ((⟨#[105, 109, 97, 120, 40]⟩ ++ x : ByteArray) ++ (⟨#[44]⟩ : ByteArray))) w := fun w => run_string_add_sum w _ _ (by rw [← hmm, ByteArray.size_append, show (⟨#[44]⟩ : ByteArray).size = 1 from rfl]; omega)
        have z3 : ∀ w, (Op.stringOp .add (⟨#[105, 109, 97, 120, 40]⟩ ++ x ++ ⟨#[44]⟩ : ByteArray) y).run Tryz.prog w = .ok (.string ((⟨#[105, 109, 97, 120, 40]⟩ ++ x ++ ⟨#[44]⟩ : ByteArray) ++ y)) w := fun w => run_string_add_sum w _ _ (by rw [← hmm, ByteArray.size_append, ByteArray.size_append, show (⟨#[44]⟩ : ByteArray).size = 1 from rfl]; omega)
        have z4 : ∀ w, (Op.stringOp .add (⟨#[105, 109, 97, 120, 40]⟩ ++ x ++ ⟨#[44]⟩ ++ y : ByteArray) (⟨#[41]⟩ : ByteArray)).run Tryz.prog w = .ok (.string ((⟨#[105, 109, 97, 120, 40]⟩ ++ x ++ ⟨#[44]⟩ ++ y : ByteArray) ++ (⟨#[41]⟩ : ByteArray))) w := fun w => run_string_add_sum w _ _ (by rw [← hmm, ByteArray.size_append, ByteArray.size_append, ByteArray.size_append, show (⟨#[44]⟩ : ByteArray).size = 1 from rfl, show (⟨#[41]⟩ : ByteArray).size = 1 from rfl]; omega)
        have hbs : (⟨#[105, 109, 97, 120, 40]⟩ ++ x ++ ⟨#[44]⟩ ++ y ++ ⟨#[41]⟩ : ByteArray).size ≤ 10000 := by rw [← hmm, ByteArray.size_append, ByteArray.size_append, ByteArray.size_append, ByteArray.size_append, show (⟨#[44]⟩ : ByteArray).size = 1 from rfl, show (⟨#[41]⟩ : ByteArray).size = 1 from rfl]; omega
        clear hms hmm hsa hsb
        go_wp2_with fail
        go_region_held3 (fun w' => w'.cell? ⟨g', 0, none⟩ = some (.int .i64 4) ∧ w'.cell? ⟨g', 2, none⟩ = some (.pointer (some ⟨pa, 0, none⟩)) ∧ w'.cell? ⟨g', 3, none⟩ = some (.pointer (some ⟨pb, 0, none⟩)))
          (first
            | go_keep
            | (go_split_ands; exact ⟨keep_cell hb2 (by assumption), keep_cell hb2 (by assumption), keep_cell hb2 (by assumption)⟩)
            | (go_split_ands; exact ⟨keep_cell hb1 (by assumption), keep_cell hb1 (by assumption), keep_cell hb1 (by assumption)⟩)
            | fail)
          (first
            | (go_at_call_of 28 (Value.pointer (some ⟨pa, 0, none⟩)); refine (IHA.out _ (by exact (Below.refl _ _).drew)).mono ?_; rintro e w1 ⟨rfl, hb1⟩)
            | (go_at_call_of 28 (Value.pointer (some ⟨pb, 0, none⟩)); refine (IHB.out _ (by exact (Below.refl _ _).drew.trans hb1)).mono ?_; rintro e w2 ⟨rfl, hb2⟩)
            | fail)
        all_goals go_split_ands
        all_goals
          have HB2 := hide (show Below w.heap.size w w2 from bel_trans ((Below.refl _ _).drew.trans hb1) hb2)
          have c02 : w2.cell? ⟨g', 0, none⟩ = some (.int .i64 4) := keep_cell hb2 (keep_cell hb1 c0)
          clear hb1 hb2 z1 z2 z3 z4
          generalize ⟨#[105, 109, 97, 120, 40]⟩ ++ x ++ ⟨#[44]⟩ ++ y ++ ⟨#[41]⟩ = bs at *
          cases m with
          | zero =>
            have HX : Hid (t.it.text = bs) := by show _ = _; rw [HI.out]; exact ht2
            go_wp2_with fail
            go_ret
            exact ⟨ret_str HX.out.symm, HB2.out⟩
          | succ m =>
            have HX : Hid (t.it.text = bs ++ ⟨#[43]⟩ ++ dec (m + 1)) := by show _ = _; rw [HI.out, text_around rfl rfl m, ht2]
            have HD := hide (l1Dec_any (m + 1) (by omega) w2)
            change Hid (Calls Tryz.prog 27 #[.int .i64 (m + 1 : Nat)] w2 fun e w' => e = .returned (.string (dec (m + 1))) ∧ Below w2.heap.size w2 w') at HD
            have ds := dec_size (show m + 1 < 100 by omega)
            generalize dec (m + 1) = dn at *
            have z1 : ∀ w, (Op.stringOp .add bs (⟨#[43]⟩ : ByteArray)).run Tryz.prog w = .ok (.string (bs ++ (⟨#[43]⟩ : ByteArray))) w := fun w => run_string_add_sum w _ _ (by show bs.size + 1 ≤ _; omega)
            have z2 : ∀ w, (Op.stringOp .add (bs ++ ⟨#[43]⟩ : ByteArray) dn).run Tryz.prog w = .ok (.string ((bs ++ ⟨#[43]⟩ : ByteArray) ++ dn)) w := fun w => run_string_add_sum w _ _ (by rw [ByteArray.size_append]; show bs.size + 1 + _ ≤ _; omega)
            clear ds hbs
            go_wp2_with (first | (go_at_call 27; refine HD.out.mono ?_; rintro e w3 ⟨rfl, hb3⟩) | fail)
            go_ret
            exact ⟨ret_str HX.out.symm, bel_trans HB2.out hb3⟩
theorem stext_any : ∀ (N : Nat) (t : Tr), t.cnt ≤ N → t.ok → t.cnt ≤ 64 → STextAt t := by
  intro N
  induction N with
  | zero => intro t h; have := t.cnt_pos; omega
  | succ N ih => intro t h hok hc; exact stext_step t hok hc (fun u hu hlt => ih u (by omega) hu (by omega))

end Go.Proofs.YtcagcfhnbphggaaGreatDoor
