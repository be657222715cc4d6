/- What the small functions around the program's TermOk answer. -/
import Derived.Test.YtpmpooekpeocdaaGreatParts
import Derived.Test.YtpmpooekpeocdaaGreatName
import Derived.Test.YtpmpooekpeocdaaGreatSpecL
import Derived.Test.YtpmpooekpeocdaaGreatSpec
import Derived.Test.YtpmpooekpeocdaaGreatTQ
namespace Go.Proofs.YtpmpooekpeocdaaGreat
open Go.ChangeShapes Go.WideShapes Go.ChangeAt Go.RowKit

theorem kinds (k : Int) (h : k < 1 ∨ 9 < k) : (k == 1) = false ∧ (k == 2) = false ∧ (k == 3) = false ∧ (k == 4) = false ∧ (k == 5) = false ∧ (k == 6) = false ∧ (k == 7) = false ∧ (k == 8) = false ∧ (k == 9) = false := by
  refine ⟨?_, ?_, ?_, ?_, ?_, ?_, ?_, ?_, ?_⟩ <;> (rw [beq_eq_false_iff_ne]; omega)

set_option maxHeartbeats 1000000 in
theorem termKids_any (k : Int) (w : World) : Calls Tryz.prog 133 #[.int .i64 k] w fun e w' => e = .returned (.int .i64 (tkidsN k)) ∧ w' = w := by
  rcases kind_cases k with rfl | rfl | rfl | rfl | rfl | rfl | rfl | rfl | rfl | h
  · go_enter Tryz.func133, Tryz.ntmps133; go_wp2; go_ret; exact ⟨rfl, rfl⟩
  · go_enter Tryz.func133, Tryz.ntmps133; go_wp2; go_ret; exact ⟨rfl, rfl⟩
  · go_enter Tryz.func133, Tryz.ntmps133; go_wp2; go_ret; exact ⟨rfl, rfl⟩
  · go_enter Tryz.func133, Tryz.ntmps133; go_wp2; go_ret; exact ⟨rfl, rfl⟩
  · go_enter Tryz.func133, Tryz.ntmps133; go_wp2; go_ret; exact ⟨rfl, rfl⟩
  · go_enter Tryz.func133, Tryz.ntmps133; go_wp2; go_ret; exact ⟨rfl, rfl⟩
  · go_enter Tryz.func133, Tryz.ntmps133; go_wp2; go_ret; exact ⟨rfl, rfl⟩
  · go_enter Tryz.func133, Tryz.ntmps133; go_wp2; go_ret; exact ⟨rfl, rfl⟩
  · go_enter Tryz.func133, Tryz.ntmps133; go_wp2; go_ret; exact ⟨rfl, rfl⟩
  have HK := hide (tkidsN_neg k h)
  obtain ⟨e1, e2, e3, e4, e5, e6, e7, e8, e9⟩ := kinds k h
  clear h
  go_enter Tryz.func133, Tryz.ntmps133; go_wp2; go_ret; exact ⟨ret_int HK.out.symm, rfl⟩
set_option maxHeartbeats 1000000 in
theorem greatestNumber_any (k : Int) (w : World) : Calls Tryz.prog 214 #[.int .i64 k] w fun e w' => e = .returned (.int .i64 (gN k)) ∧ w' = w := by
  rcases kind_cases k with rfl | rfl | rfl | rfl | rfl | rfl | rfl | rfl | rfl | h
  · go_enter Tryz.func214, Tryz.ntmps214; go_wp2; go_ret; exact ⟨rfl, rfl⟩
  · go_enter Tryz.func214, Tryz.ntmps214; go_wp2; go_ret; exact ⟨rfl, rfl⟩
  · go_enter Tryz.func214, Tryz.ntmps214; go_wp2; go_ret; exact ⟨rfl, rfl⟩
  · go_enter Tryz.func214, Tryz.ntmps214; go_wp2; go_ret; exact ⟨rfl, rfl⟩
  · go_enter Tryz.func214, Tryz.ntmps214; go_wp2; go_ret; exact ⟨rfl, rfl⟩
  · go_enter Tryz.func214, Tryz.ntmps214; go_wp2; go_ret; exact ⟨rfl, rfl⟩
  · go_enter Tryz.func214, Tryz.ntmps214; go_wp2; go_ret; exact ⟨rfl, rfl⟩
  · go_enter Tryz.func214, Tryz.ntmps214; go_wp2; go_ret; exact ⟨rfl, rfl⟩
  · go_enter Tryz.func214, Tryz.ntmps214; go_wp2; go_ret; exact ⟨rfl, rfl⟩
  have HK : Hid (gN k = 0) := by show _ = _; unfold gN; rw [if_neg (by omega), if_neg (by omega)]
  obtain ⟨e1, e2, e3, e4, e5, e6, e7, e8, e9⟩ := kinds k h
  clear h
  go_enter Tryz.func214, Tryz.ntmps214; go_wp2; go_ret; exact ⟨ret_int HK.out.symm, rfl⟩
set_option maxHeartbeats 1000000 in
theorem greatestMode_any (k : Int) (w : World) : Calls Tryz.prog 215 #[.int .i64 k] w fun e w' => e = .returned (.int .i64 (gM k)) ∧ w' = w := by
  rcases kind_cases k with rfl | rfl | rfl | rfl | rfl | rfl | rfl | rfl | rfl | h
  · go_enter Tryz.func215, Tryz.ntmps215; go_wp2; go_ret; exact ⟨rfl, rfl⟩
  · go_enter Tryz.func215, Tryz.ntmps215; go_wp2; go_ret; exact ⟨rfl, rfl⟩
  · go_enter Tryz.func215, Tryz.ntmps215; go_wp2; go_ret; exact ⟨rfl, rfl⟩
  · go_enter Tryz.func215, Tryz.ntmps215; go_wp2; go_ret; exact ⟨rfl, rfl⟩
  · go_enter Tryz.func215, Tryz.ntmps215; go_wp2; go_ret; exact ⟨rfl, rfl⟩
  · go_enter Tryz.func215, Tryz.ntmps215; go_wp2; go_ret; exact ⟨rfl, rfl⟩
  · go_enter Tryz.func215, Tryz.ntmps215; go_wp2; go_ret; exact ⟨rfl, rfl⟩
  · go_enter Tryz.func215, Tryz.ntmps215; go_wp2; go_ret; exact ⟨rfl, rfl⟩
  · go_enter Tryz.func215, Tryz.ntmps215; go_wp2; go_ret; exact ⟨rfl, rfl⟩
  have HK : Hid (gM k = 0) := by show _ = _; unfold gM; rw [if_neg (by omega)]
  obtain ⟨e1, e2, e3, e4, e5, e6, e7, e8, e9⟩ := kinds k h
  clear h
  go_enter Tryz.func215, Tryz.ntmps215; go_wp2; go_ret; exact ⟨ret_int HK.out.symm, rfl⟩

set_option maxHeartbeats 1000000 in
theorem termNameOk_any (td : Td) (la ka : Option Addr) (ln lc kn kc : Nat) (w : World) (hs : td.s.size ≤ maxLen) :
    Calls Tryz.prog 216 #[.agg #[.int .i64 td.k, .int .i64 td.n, .int .i64 td.m, .string td.s, .slice la ln lc, .slice ka kn kc]] w fun e w' => e = .returned (.bool (tnameB nameB td)) ∧ Below w.heap.size w w' := by
  obtain ⟨k, n, m, s, lv, kids⟩ := td
  dsimp only at *
  rcases kind_cases k with rfl | rfl | rfl | rfl | rfl | rfl | rfl | rfl | rfl | h
  · go_enter Tryz.func216, Tryz.ntmps216
    go_wp2_with (first
      | (go_at_call 110; refine (implName_any _ _ hs).mono ?_; rintro e w' ⟨rfl, hw'⟩)
      | (go_at_call 148; refine (implShort_any _ _ hs).mono ?_; rintro e w' ⟨rfl, rfl⟩)
      | fail)
    go_ret
    first
      | exact ⟨rfl, bel_alloc (Below.refl _ _) _⟩
      | exact ⟨rfl, (bel_alloc (Below.refl _ _) _).trans (hw'.mono (by simp))⟩
  · go_enter Tryz.func216, Tryz.ntmps216
    go_wp2_with (first
      | (go_at_call 110; refine (implName_any _ _ hs).mono ?_; rintro e w' ⟨rfl, hw'⟩)
      | (go_at_call 148; refine (implShort_any _ _ hs).mono ?_; rintro e w' ⟨rfl, rfl⟩)
      | fail)
    go_ret
    first
      | exact ⟨rfl, bel_alloc (Below.refl _ _) _⟩
      | exact ⟨rfl, (bel_alloc (Below.refl _ _) _).trans (hw'.mono (by simp))⟩
  · go_enter Tryz.func216, Tryz.ntmps216
    go_wp2_with (first
      | (go_at_call 110; refine (implName_any _ _ hs).mono ?_; rintro e w' ⟨rfl, hw'⟩)
      | (go_at_call 148; refine (implShort_any _ _ hs).mono ?_; rintro e w' ⟨rfl, rfl⟩)
      | fail)
    go_ret
    first
      | exact ⟨rfl, bel_alloc (Below.refl _ _) _⟩
      | exact ⟨rfl, (bel_alloc (Below.refl _ _) _).trans (hw'.mono (by simp))⟩
  · go_enter Tryz.func216, Tryz.ntmps216
    go_wp2_with (first
      | (go_at_call 110; refine (implName_any _ _ hs).mono ?_; rintro e w' ⟨rfl, hw'⟩)
      | (go_at_call 148; refine (implShort_any _ _ hs).mono ?_; rintro e w' ⟨rfl, rfl⟩)
      | fail)
    go_ret
    first
      | exact ⟨rfl, bel_alloc (Below.refl _ _) _⟩
      | exact ⟨rfl, (bel_alloc (Below.refl _ _) _).trans (hw'.mono (by simp))⟩
  · go_enter Tryz.func216, Tryz.ntmps216
    go_wp2_with (first
      | (go_at_call 110; refine (implName_any _ _ hs).mono ?_; rintro e w' ⟨rfl, hw'⟩)
      | (go_at_call 148; refine (implShort_any _ _ hs).mono ?_; rintro e w' ⟨rfl, rfl⟩)
      | fail)
    go_ret
    first
      | exact ⟨rfl, bel_alloc (Below.refl _ _) _⟩
      | exact ⟨rfl, (bel_alloc (Below.refl _ _) _).trans (hw'.mono (by simp))⟩
  · go_enter Tryz.func216, Tryz.ntmps216
    go_wp2_with (first
      | (go_at_call 110; refine (implName_any _ _ hs).mono ?_; rintro e w' ⟨rfl, hw'⟩)
      | (go_at_call 148; refine (implShort_any _ _ hs).mono ?_; rintro e w' ⟨rfl, rfl⟩)
      | fail)
    go_ret
    first
      | exact ⟨rfl, bel_alloc (Below.refl _ _) _⟩
      | exact ⟨rfl, (bel_alloc (Below.refl _ _) _).trans (hw'.mono (by simp))⟩
  · go_enter Tryz.func216, Tryz.ntmps216
    go_wp2_with (first
      | (go_at_call 110; refine (implName_any _ _ hs).mono ?_; rintro e w' ⟨rfl, hw'⟩)
      | (go_at_call 148; refine (implShort_any _ _ hs).mono ?_; rintro e w' ⟨rfl, rfl⟩)
      | fail)
    go_ret
    first
      | exact ⟨rfl, bel_alloc (Below.refl _ _) _⟩
      | exact ⟨rfl, (bel_alloc (Below.refl _ _) _).trans (hw'.mono (by simp))⟩
  · go_enter Tryz.func216, Tryz.ntmps216
    go_wp2_with (first
      | (go_at_call 110; refine (implName_any _ _ hs).mono ?_; rintro e w' ⟨rfl, hw'⟩)
      | (go_at_call 148; refine (implShort_any _ _ hs).mono ?_; rintro e w' ⟨rfl, rfl⟩)
      | fail)
    go_ret
    first
      | exact ⟨rfl, bel_alloc (Below.refl _ _) _⟩
      | exact ⟨rfl, (bel_alloc (Below.refl _ _) _).trans (hw'.mono (by simp))⟩
  · go_enter Tryz.func216, Tryz.ntmps216
    go_wp2_with (first
      | (go_at_call 110; refine (implName_any _ _ hs).mono ?_; rintro e w' ⟨rfl, hw'⟩)
      | (go_at_call 148; refine (implShort_any _ _ hs).mono ?_; rintro e w' ⟨rfl, rfl⟩)
      | fail)
    go_ret
    first
      | exact ⟨rfl, bel_alloc (Below.refl _ _) _⟩
      | exact ⟨rfl, (bel_alloc (Below.refl _ _) _).trans (hw'.mono (by simp))⟩
  have HK : Hid (tnameB nameB ⟨k, n, m, s, lv, kids⟩ = s.toList.isEmpty) := by
    show _ = _
    unfold tnameB
    rw [if_neg (by dsimp only; omega), if_neg (by simp [bindsB]; omega)]
  obtain ⟨e1, e2, e3, e4, e5, e6, e7, e8, e9⟩ := kinds k h
  clear h
  rw [HK.out]
  go_enter Tryz.func216, Tryz.ntmps216
  go_wp2_with fail
  go_ret
  exact ⟨rfl, bel_alloc (Below.refl _ _) _⟩
end Go.Proofs.YtpmpooekpeocdaaGreat

/- What the specification's l1Fits answers at a tree: at most 64 nodes, at most 6 parameters. For FnExactLevelPut. -/
namespace Go.Proofs.YtpmpooekpeocdaaGreat
open Go.ChangeShapes Go.WideShapes Go.ChangeAt Go.RowKit

theorem Tr.sz_cnt : ∀ t : Tr, t.sz = min 1000 t.cnt
  | .leaf _ _ => by simp [Tr.sz, Tr.cnt]
  | .one _ _ a => by simp only [Tr.sz, Tr.cnt, Tr.sz_cnt a]; omega
  | .two _ _ a b => by simp only [Tr.sz, Tr.cnt, Tr.sz_cnt a, Tr.sz_cnt b]; omega
theorem TreeAt.size {B : Nat} {w : World} {g : Nat} : ∀ {t : Tr}, TreeAt B w g t → w.cell? ⟨g, 4, none⟩ = some (.int .i64 t.sz)
  | .leaf k s, h => by rw [cell_of_row w g 4 _ _ _ h.2]; rfl
  | .one k s a, h => by obtain ⟨_, pa, h2, _⟩ := h; rw [cell_of_row w g 4 _ _ _ h2]; rfl
  | .two k s a b, h => by obtain ⟨_, pa, pb, h2, _⟩ := h; rw [cell_of_row w g 4 _ _ _ h2]; rfl
def fitsB (t : Tr) : Bool := decide (t.cnt ≤ 64 ∧ (t.names []).length ≤ 6)

set_option maxRecDepth 10000 in
set_option maxHeartbeats 2000000 in
theorem l1Fits_any (t : Tr) (g : Nat) (w : World) (h : TreeAt w.heap.size w g t) :
    Calls Tryz.prog 176 #[.pointer (some ⟨g, 0, none⟩)] w fun e w' => e = .returned (.bool (fitsB t)) ∧ Below w.heap.size w w' := by
  have HT := hide h
  have c4 := h.size
  have hsz := Tr.sz_cnt t
  have hst := World.ownsRow_lit (base := w.heap.size) (e := 9) (size := 1) w #[] 0 (Nat.le_refl _) (by unfold maxLen; omega) rfl
  have HST := hide hst
  clear hst h
  by_cases hc : t.cnt ≤ 64
  · have hle : (t.sz : Int) ≤ 64 := by omega
    have HF : Hid (decide (((t.names []).length : Int) ≤ 6) = fitsB t) := by
      show _ = _
      unfold fitsB
      rw [decide_eq_decide]
      constructor
      · intro q; exact ⟨hc, by omega⟩
      · intro q; omega
    have HC := hide hc
    clear hc hsz
    go_enter Tryz.func176, Tryz.ntmps176
    go_wp2_with fail
    refine (l1Names_any t g _ _ [] w.heap.size (HT.out.keep (bel_alloc (Below.refl _ _) _)) HST.out (by simp) (by have := HC.out; simp; omega)).mono ?_
    rintro e w1 ⟨vn1, rfl, hown1, hb1⟩
    have hbel1 : Hid (Below w.heap.size w w1) := (bel_alloc (Below.refl w.heap.size w) _).trans hb1
    obtain ⟨na1, nc1, rfl⟩ := row_form hown1
    clear hown1 hb1 HST c4 hle
    go_wp2_with fail
    go_ret
    exact ⟨ret_bool HF.out, hbel1.out⟩
  · have hle : ¬ (t.sz : Int) ≤ 64 := by omega
    have HF : Hid (false = fitsB t) := by
      show _ = _
      unfold fitsB
      rw [eq_comm, decide_eq_false_iff_not]
      exact fun q => hc q.1
    clear hc hsz
    go_enter Tryz.func176, Tryz.ntmps176
    go_wp2_with fail
    go_ret
    exact ⟨ret_bool HF.out, Below.refl _ _⟩
end Go.Proofs.YtpmpooekpeocdaaGreat

/- What the specification's small functions on terms answer: kids of a kind, binders, none, too great; and l1Trees, which reads levels. -/
namespace Go.Proofs.YtpmpooekpeocdaaGreat
open Go.ChangeShapes Go.WideShapes Go.ChangeAt Go.RowKit

set_option maxHeartbeats 1000000 in
theorem l3KidsOf_any (k : Int) (w : World) : Calls Tryz.prog 140 #[.int .i64 k] w fun e w' => e = .returned (.int .i64 (tkidsN k)) ∧ Below w.heap.size w w' := by
  rcases kind_cases k with rfl | rfl | rfl | rfl | rfl | rfl | rfl | rfl | rfl | h
  · go_enter Tryz.func140, Tryz.ntmps140; go_wp2; go_ret; exact ⟨rfl, bel_alloc (Below.refl _ _) _⟩
  · go_enter Tryz.func140, Tryz.ntmps140; go_wp2; go_ret; exact ⟨rfl, bel_alloc (Below.refl _ _) _⟩
  · go_enter Tryz.func140, Tryz.ntmps140; go_wp2; go_ret; exact ⟨rfl, bel_alloc (Below.refl _ _) _⟩
  · go_enter Tryz.func140, Tryz.ntmps140; go_wp2; go_ret; exact ⟨rfl, bel_alloc (Below.refl _ _) _⟩
  · go_enter Tryz.func140, Tryz.ntmps140; go_wp2; go_ret; exact ⟨rfl, bel_alloc (Below.refl _ _) _⟩
  · go_enter Tryz.func140, Tryz.ntmps140; go_wp2; go_ret; exact ⟨rfl, bel_alloc (Below.refl _ _) _⟩
  · go_enter Tryz.func140, Tryz.ntmps140; go_wp2; go_ret; exact ⟨rfl, bel_alloc (Below.refl _ _) _⟩
  · go_enter Tryz.func140, Tryz.ntmps140; go_wp2; go_ret; exact ⟨rfl, bel_alloc (Below.refl _ _) _⟩
  · go_enter Tryz.func140, Tryz.ntmps140; go_wp2; go_ret; exact ⟨rfl, bel_alloc (Below.refl _ _) _⟩
  have HK := hide (tkidsN_neg k h)
  by_cases h1 : k < 1
  · have d1 : decide (k < 1) = true := by simp [h1]
    go_enter Tryz.func140, Tryz.ntmps140; go_wp2_with fail; go_ret; exact ⟨ret_int HK.out.symm, Below.refl _ _⟩
  · have d1 : decide (k < 1) = false := by simp; omega
    have d2 : decide (9 < k) = true := by simp; omega
    go_enter Tryz.func140, Tryz.ntmps140; go_wp2_with fail; go_ret; exact ⟨ret_int HK.out.symm, Below.refl _ _⟩
set_option maxHeartbeats 1000000 in
theorem l3Binds_any (k : Int) (w : World) : Calls Tryz.prog 122 #[.int .i64 k] w fun e w' => e = .returned (.bool (bindsB k)) ∧ w' = w := by
  have HB : Hid (bindsB k = (decide (k = 5) || decide (k = 6) || decide (k = 7))) := rfl
  rw [HB.out]
  by_cases h5 : k = 5
  · subst h5; go_enter Tryz.func122, Tryz.ntmps122; go_wp2; go_ret; exact ⟨rfl, rfl⟩
  have e5 : (k == 5) = false := beq_eq_false_iff_ne.2 h5
  by_cases h6 : k = 6
  · subst h6; go_enter Tryz.func122, Tryz.ntmps122; go_wp2; go_ret; exact ⟨rfl, rfl⟩
  have e6 : (k == 6) = false := beq_eq_false_iff_ne.2 h6
  by_cases h7 : k = 7
  · subst h7; go_enter Tryz.func122, Tryz.ntmps122; go_wp2; go_ret; exact ⟨rfl, rfl⟩
  have e7 : (k == 7) = false := beq_eq_false_iff_ne.2 h7
  have HN : Hid ((decide (k = 5) || decide (k = 6) || decide (k = 7)) = false) := by show _ = _; simp [h5, h6, h7]
  rw [HN.out]
  clear h5 h6 h7
  go_enter Tryz.func122, Tryz.ntmps122; go_wp2; go_ret; exact ⟨rfl, rfl⟩
set_option maxHeartbeats 400000 in
theorem tnone_some (a : Addr) (w : World) : Calls Tryz.prog 75 #[.pointer (some a)] w fun e w' => e = .returned (.bool false) ∧ w' = w := by
  go_enter Tryz.func75, Tryz.ntmps75
  go_wp2
  go_ret
  exact ⟨rfl, rfl⟩
set_option maxHeartbeats 400000 in
theorem tnone_none (w : World) : Calls Tryz.prog 75 #[.pointer none] w fun e w' => e = .returned (.bool true) ∧ w' = w := by
  go_enter Tryz.func75, Tryz.ntmps75
  go_wp2
  go_ret
  exact ⟨rfl, rfl⟩
set_option maxHeartbeats 400000 in
theorem l3Great_any (g : Nat) (sz : Int) (w : World) (h : w.cell? ⟨g, 6, none⟩ = some (.int .i64 sz)) : Calls Tryz.prog 143 #[.pointer (some ⟨g, 0, none⟩)] w fun e w' => e = .returned (.bool (decide (20000 < sz))) ∧ w' = w := by
  go_enter Tryz.func143, Tryz.ntmps143
  go_wp2_with fail
  go_ret
  exact ⟨rfl, rfl⟩

/-- A row of pointers. -/
def PtrRow (w : World) (v : Value) (ps : List Nat) : Prop :=
  ∃ a cap, v = .slice a ps.length cap ∧ ps.length ≤ cap ∧ cap ≤ maxLen ∧ (0 < ps.length → ∃ b off, a = some ⟨b, off, none⟩ ∧ ∀ j (h : j < ps.length), w.cell? ⟨b, off + j, none⟩ = some (ptrV ps[j]))
theorem PtrRow.keep {w w' : World} (hb : Below w.heap.size w w') {v : Value} {ps : List Nat} (h : PtrRow w v ps) : PtrRow w' v ps := by
  obtain ⟨a, cap, hv, h1, h2, h3⟩ := h
  refine ⟨a, cap, hv, h1, h2, fun h0 => ?_⟩
  obtain ⟨b, off, ha, hc⟩ := h3 h0
  exact ⟨b, off, ha, fun j h => keep_cell hb (hc j h)⟩
theorem PtrRow.own {w : World} {base : Nat} {e : TypeId} {v : Value} {n : Nat} {ps : List Nat} (h : w.ownsRow base e 1 v n (ps.map ptrV)) (hn : n = ps.length) : PtrRow w v ps := by
  subst hn
  rcases h.2 with ⟨rfl, h0⟩ | ⟨g, cap, cur, rfl, _, hg, hnc, hcm, hcs, htake⟩
  · exact ⟨none, 0, by rw [h0], by omega, by unfold maxLen; omega, fun h => by omega⟩
  · refine ⟨_, _, rfl, hnc, hcm, fun _ => ⟨g, 0, rfl, fun j hj => ?_⟩⟩
    rw [Nat.zero_add, h.cellAt j (by omega), List.getElem?_map, List.getElem?_eq_getElem hj]; rfl
/-- Levels as trees, each one that fits. -/
def LevTrees (w : World) (ps : List Nat) (us : List Tr) : Prop := TreesAt w ps us ∧ ∀ u ∈ us, fitsB u = true
theorem TreesAt.keep {w w' : World} (hb : Below w.heap.size w w') {ps : List Nat} {us : List Tr} (h : TreesAt w ps us) : TreesAt w' ps us :=
  ⟨h.1, fun j h1 h2 => ((h.2 j h1 h2).keep hb).mono hb.size⟩
theorem LevTrees.keep {w w' : World} (hb : Below w.heap.size w w') {ps : List Nat} {us : List Tr} (h : LevTrees w ps us) : LevTrees w' ps us := ⟨h.1.keep hb, h.2⟩
end Go.Proofs.YtpmpooekpeocdaaGreat

/- Small functions over a node of the store: isBinder, parts, asBinder, bodyPlace, binds. -/
namespace Go.Proofs.YtpmpooekpeocdaaGreat
open Go.ChangeShapes Go.WideShapes Go.ChangeAt Go.RowKit

theorem isBinder_any (k : Int) (w : World) : Calls Tryz.prog 206 #[.int .i64 k] w fun e w' => e = .returned (.bool (bindsB k)) ∧ w' = w := by
  have HB : Hid (bindsB k = (k == 5 || k == 6 || k == 7)) := by
    show _ = _
    unfold bindsB
    by_cases h5 : k = 5
    · subst h5; rfl
    · by_cases h6 : k = 6
      · subst h6; rfl
      · by_cases h7 : k = 7
        · subst h7; rfl
        · simp [h5, h6, h7]
  by_cases h5 : k = 5
  · have q5 : (k == 5) = true := by simp [h5]
    rw [HB.out, q5]
    clear h5 HB
    go_enter Tryz.func206, Tryz.ntmps206
    go_wp2_with fail
    go_ret
    exact ⟨rfl, rfl⟩
  · have q5 : (k == 5) = false := by simp [h5]
    by_cases h6 : k = 6
    · have q6 : (k == 6) = true := by simp [h6]
      rw [HB.out, q5, q6]
      clear h5 h6 HB
      go_enter Tryz.func206, Tryz.ntmps206
      go_wp2_with fail
      go_ret
      exact ⟨rfl, rfl⟩
    · have q6 : (k == 6) = false := by simp [h6]
      rw [HB.out, q5, q6]
      clear h5 h6 HB
      go_enter Tryz.func206, Tryz.ntmps206
      go_wp2_with fail
      go_ret
      exact ⟨by simp, rfl⟩
theorem run_slice_arr (W : World) (b kn : Nat) (hk : kn ≤ 3) : (Instr.sliceAt 116 (.pointer (some ⟨b, 5, none⟩)) none (some (.int .i64 (kn : Int))) none).run Tryz.prog W = .ok (.slice (some ⟨b, 5, none⟩) kn 3) W := by
  rw [run_sliceAt_array_h W 116 ⟨b, 5, none⟩ (by kernel_rfl) .i64 _ (by omega) (by rw [show Tryz.prog.arrayLen 116 = 3 from by kernel_rfl]; omega)]
  simp [slicedAt, go_sem, Addr.add]

set_option maxRecDepth 20000 in
set_option maxHeartbeats 2000000 in
theorem parts_any (b : Nat) (k : Int) (w : World) (h : w.cell? ⟨b, 0, none⟩ = some (.int .i64 k)) (hk : 0 ≤ tkidsN k) (hk3 : tkidsN k ≤ 3) :
    Calls Tryz.prog 97 #[.pointer (some ⟨b, 0, none⟩)] w fun e w' => e = .returned (.slice (some ⟨b, 5, none⟩) (tkidsN k).toNat 3) ∧ Below w.heap.size w w' := by
  obtain ⟨kn, hkn⟩ : ∃ kn : Nat, tkidsN k = kn := ⟨(tkidsN k).toNat, by omega⟩
  have HT := hide (fun W => termKids_any k W)
  rw [hkn] at HT hk3 ⊢
  have hkn3 : kn ≤ 3 := by omega
  have hrs := fun W => run_slice_arr W b kn hkn3
  have hbl := lt_cell h
  have hc : ∀ p : Bel w.heap.size w, p.w'.cell? ⟨b, 0, none⟩ = some (.int .i64 k) := fun p => p.cell hbl h
  haveI := bel_ne w.heap.size w
  clear hkn hk hk3
  go_enter Tryz.func97, Tryz.ntmps97
  go_wp2_with fail
  refine wp_region_bel w.heap.size (by kernel_rfl) (by kernel_rfl) ?_
  repeat (quiet_step (first
    | (go_at_call 133; exact calls_bel_same (HT.out _))))
  refine wpQuiet_nil ?_
  intro _ hw'
  obtain ⟨p, hw2⟩ := hw'
  subst hw2
  go_wp2_with fail
  go_ret
  exact ⟨rfl, p.h⟩

set_option maxRecDepth 20000 in
set_option maxHeartbeats 2000000 in
theorem asBinder_any (b : Nat) (k : Int) (w : World) (h : w.cell? ⟨b, 0, none⟩ = some (.int .i64 k)) :
    Calls Tryz.prog 172 #[.pointer (some ⟨b, 0, none⟩)] w fun e w' => e = .returned (.tuple #[.agg #[.pointer (some ⟨b, 0, none⟩)], .bool (bindsB k)]) ∧ Below w.heap.size w w' := by
  have HT := hide (fun W => isBinder_any k W)
  have hbl := lt_cell h
  go_enter Tryz.func172, Tryz.ntmps172
  go_wp2_with (go_at_call 206; refine (HT.out _).mono ?_; rintro e w1 ⟨rfl, hw⟩; have hw := hw.symm; subst hw)
  refine bodyPost_ret (v := .tuple #[.agg #[.pointer (some ⟨b, 0, none⟩)], .bool (bindsB k)]) (by simp [results, Tryz.results172, go_sem]) rfl ⟨rfl, ?_⟩
  exact bel_alloc (Below.refl _ _) _
set_option maxRecDepth 20000 in
set_option maxHeartbeats 2000000 in
theorem bodyPlace_any (b : Nat) (k : Int) (w : World) (h : w.cell? ⟨b, 0, none⟩ = some (.int .i64 k)) (hk : 0 ≤ tkidsN k) (hk3 : tkidsN k ≤ 3) :
    Calls Tryz.prog 173 #[.agg #[.pointer (some ⟨b, 0, none⟩)]] w fun e w' => e = .returned (.int .i64 (tkidsN k - 1)) ∧ Below w.heap.size w w' := by
  have hbl := lt_cell h
  have HP := hide (parts_any b k (w.alloc (.cells #[.pointer (some ⟨b, 0, none⟩)] 113)) (keep_cell (bel_alloc (Below.refl w.heap.size w) _) h) hk hk3)
  have HB := hide (bel_alloc (Below.refl w.heap.size w) (.cells #[.pointer (some ⟨b, 0, none⟩)] 113))
  clear h
  obtain ⟨kn, hkn⟩ : ∃ kn : Nat, tkidsN k = kn := ⟨(tkidsN k).toNat, by omega⟩
  rw [hkn] at HP ⊢
  have hle : kn ≤ 3 := by omega
  rw [show ((kn : Int)).toNat = kn from by omega] at HP
  clear hkn hk hk3
  go_enter Tryz.func173, Tryz.ntmps173
  go_wp2_with fail
  refine HP.out.mono ?_
  rintro e w1 ⟨rfl, hb1⟩
  have HB1 := hide (bel_trans HB.out hb1)
  clear hb1 HP
  go_wp2_with fail
  go_ret
  exact ⟨by go_num, HB1.out⟩
/-- How many variables of its own a node has in a kid. -/
def bindN (k : Int) (i : Nat) : Int := if bindsB k = true ∧ (i : Int) = tkidsN k - 1 then 1 else 0
set_option maxRecDepth 20000 in
set_option maxHeartbeats 4000000 in
theorem binds_any (b : Nat) (k : Int) (i : Nat) (w : World) (h : w.cell? ⟨b, 0, none⟩ = some (.int .i64 k)) (hk : 0 ≤ tkidsN k) (hk3 : tkidsN k ≤ 3) :
    Calls Tryz.prog 131 #[.pointer (some ⟨b, 0, none⟩), .int .i64 i] w fun e w' => e = .returned (.int .i64 (bindN k i)) ∧ Below w.heap.size w w' := by
  have HA := hide (asBinder_any b k w h)
  have HBP := hide (fun W hb => bodyPlace_any b k W (keep_cell (w' := W) hb h) hk hk3)
  unfold bindN
  clear h
  cases hb : bindsB k
  · rw [hb] at HA
    rw [if_neg (by simp)]
    go_enter Tryz.func131, Tryz.ntmps131
    go_wp2_with fail
    refine HA.out.mono ?_
    rintro e w1 ⟨rfl, hb1⟩
    have HB1 := hide (bel_trans hb1 (bel_alloc (Below.refl w1.heap.size w1) (.cells #[.pointer (some ⟨b, 0, none⟩)] 113)))
    clear hb1
    go_wp2_with fail
    go_ret
    exact ⟨rfl, HB1.out⟩
  · rw [hb] at HA
    by_cases he : (i : Int) = tkidsN k - 1
    · rw [if_pos ⟨rfl, he⟩]
      have qe : ((i : Int) == tkidsN k - 1) = true := by simp [he]
      generalize tkidsN k - 1 = bp at *
      clear he
      go_enter Tryz.func131, Tryz.ntmps131
      go_wp2_with fail
      refine HA.out.mono ?_
      rintro e w1 ⟨rfl, hb1⟩
      have HB1 := hide (bel_trans hb1 (bel_alloc (Below.refl w1.heap.size w1) (.cells #[.pointer (some ⟨b, 0, none⟩)] 113)))
      have HC := hide (HBP.out _ HB1.out)
      clear hb1
      go_wp2_with (go_at_call 173; refine HC.out.mono ?_; rintro e w2 ⟨rfl, hb2⟩)
      have HB2 := hide (bel_trans HB1.out hb2)
      go_ret
      exact ⟨rfl, HB2.out⟩
    · rw [if_neg (fun h => he h.2)]
      have qe : ((i : Int) == tkidsN k - 1) = false := by simp [he]
      generalize tkidsN k - 1 = bp at *
      clear he
      go_enter Tryz.func131, Tryz.ntmps131
      go_wp2_with fail
      refine HA.out.mono ?_
      rintro e w1 ⟨rfl, hb1⟩
      have HB1 := hide (bel_trans hb1 (bel_alloc (Below.refl w1.heap.size w1) (.cells #[.pointer (some ⟨b, 0, none⟩)] 113)))
      have HC := hide (HBP.out _ HB1.out)
      clear hb1
      go_wp2_with (go_at_call 173; refine HC.out.mono ?_; rintro e w2 ⟨rfl, hb2⟩)
      have HB2 := hide (bel_trans HB1.out hb2)
      go_ret
      exact ⟨rfl, HB2.out⟩
end Go.Proofs.YtpmpooekpeocdaaGreat
