/- The text of a level's tree, and what the program's levelTreeText answers. -/
import Derived.Test.YtcagcfhnbphggaaGreatDoorTxD
import Derived.Test.YtcagcfhnbphggaaGreatDoorImpl
namespace Go.Proofs.YtcagcfhnbphggaaGreatDoor
open Go.ChangeShapes Go.WideShapes Go.ChangeAt Go.RowKit

def dec (n : Nat) : ByteArray := ⟨(Lib.decDigits n).toArray⟩
theorem dec_size {n : Nat} (h : n < 100) : (dec n).size ≤ 2 := by
  show (Lib.decDigits n).toArray.size ≤ 2
  by_cases h0 : n < 10
  · rw [Lib.decDigits_one h0]; simp
  · rw [Lib.decDigits_two h0 h]; simp
def It.isZero : It → Bool
  | .zero => true
  | _ => false
/-- A tree's text. -/
def It.text : It → ByteArray
  | .zero => ⟨#[48]⟩
  | .succ n x => if x.isZero then dec n else x.text ++ ⟨#[43]⟩ ++ dec n
  | .max a b => ⟨#[109, 97, 120, 40]⟩ ++ a.text ++ ⟨#[44]⟩ ++ b.text ++ ⟨#[41]⟩
  | .imax a b => ⟨#[105, 109, 97, 120, 40]⟩ ++ a.text ++ ⟨#[44]⟩ ++ b.text ++ ⟨#[41]⟩
  | .param s => s
/-- Each row of successors has at least one. -/
def It.pos : It → Prop
  | .zero => True
  | .succ n x => 1 ≤ n ∧ x.pos
  | .max a b => a.pos ∧ b.pos
  | .imax a b => a.pos ∧ b.pos
  | .param _ => True
theorem pos_around {x : It} (h : x.pos) : (sAround x).pos := by
  cases x with
  | succ n y => exact ⟨by omega, h.2⟩
  | zero => exact ⟨Nat.le_refl _, h⟩
  | max a b => exact ⟨Nat.le_refl _, h⟩
  | imax a b => exact ⟨Nat.le_refl _, h⟩
  | param s => exact ⟨Nat.le_refl _, h⟩
theorem it_pos : ∀ t : Tr, t.it.pos
  | .leaf k s => by simp only [Tr.it]; split <;> trivial
  | .one _ _ a => pos_around (it_pos a)
  | .two k _ a b => by simp only [Tr.it]; split <;> exact ⟨it_pos a, it_pos b⟩
theorem It.text_size : ∀ x : It, x.pos → x.cnt ≤ 64 → (∀ s ∈ x.params, s.size ≤ 40) → x.text.size ≤ 60 * x.cnt
  | .zero, _, _, _ => by show 1 ≤ _; simp [It.cnt]
  | .succ n x, hq, hc, hp => by
    simp only [It.cnt] at hc
    have hn := hq.1
    have hd := dec_size (show n < 100 by omega)
    have hx := It.text_size x hq.2 (by omega) hp
    simp only [It.text, It.cnt]
    split
    · omega
    · rw [ByteArray.size_append, ByteArray.size_append, show (⟨#[43]⟩ : ByteArray).size = 1 from rfl]; omega
  | .max a b, hq, hc, hp => by
    simp only [It.cnt] at hc
    simp only [It.params] at hp
    have ha := It.text_size a hq.1 (by omega) (fun s hs => hp s (by simp [hs]))
    have hb := It.text_size b hq.2 (by omega) (fun s hs => hp s (by simp [hs]))
    simp only [It.text, It.cnt, ByteArray.size_append, show (⟨#[44]⟩ : ByteArray).size = 1 from rfl, show (⟨#[41]⟩ : ByteArray).size = 1 from rfl, show (⟨#[109, 97, 120, 40]⟩ : ByteArray).size = 4 from rfl]
    omega
  | .imax a b, hq, hc, hp => by
    simp only [It.cnt] at hc
    simp only [It.params] at hp
    have ha := It.text_size a hq.1 (by omega) (fun s hs => hp s (by simp [hs]))
    have hb := It.text_size b hq.2 (by omega) (fun s hs => hp s (by simp [hs]))
    simp only [It.text, It.cnt, ByteArray.size_append, show (⟨#[44]⟩ : ByteArray).size = 1 from rfl, show (⟨#[41]⟩ : ByteArray).size = 1 from rfl, show (⟨#[105, 109, 97, 120, 40]⟩ : ByteArray).size = 5 from rfl]
    omega
  | .param s, _, _, hp => by
    have := hp s (by simp [It.params])
    simp only [It.text, It.cnt]; omega

theorem Tryz.at82_85 (v : Value) (w : World) : (Instr.typeAssert (.iface 129 v) 110 132 true).run Tryz.prog w = .ok (.tuple #[.agg #[.nilIface, .nilIface], .bool false]) w := by kernel_rfl
theorem Tryz.at85_85 (v : Value) (w : World) : (Instr.typeAssert (.iface 132 v) 110 132 true).run Tryz.prog w = .ok (.tuple #[v, .bool true]) w := by kernel_rfl
theorem Tryz.at86_85 (v : Value) (w : World) : (Instr.typeAssert (.iface 133 v) 110 132 true).run Tryz.prog w = .ok (.tuple #[.agg #[.nilIface, .nilIface], .bool false]) w := by kernel_rfl
theorem Tryz.at88_85 (v : Value) (w : World) : (Instr.typeAssert (.iface 135 v) 110 132 true).run Tryz.prog w = .ok (.tuple #[.agg #[.nilIface, .nilIface], .bool false]) w := by kernel_rfl
theorem Tryz.at82_86 (v : Value) (w : World) : (Instr.typeAssert (.iface 129 v) 110 133 true).run Tryz.prog w = .ok (.tuple #[.agg #[.nilIface, .nilIface], .bool false]) w := by kernel_rfl
theorem Tryz.at86_86 (v : Value) (w : World) : (Instr.typeAssert (.iface 133 v) 110 133 true).run Tryz.prog w = .ok (.tuple #[v, .bool true]) w := by kernel_rfl
theorem Tryz.at88_86 (v : Value) (w : World) : (Instr.typeAssert (.iface 135 v) 110 133 true).run Tryz.prog w = .ok (.tuple #[.agg #[.nilIface, .nilIface], .bool false]) w := by kernel_rfl
theorem Tryz.at82_88 (v : Value) (w : World) : (Instr.typeAssert (.iface 129 v) 110 135 true).run Tryz.prog w = .ok (.tuple #[.agg #[.string ⟨#[]⟩], .bool false]) w := by kernel_rfl
theorem Tryz.at88_88 (v : Value) (w : World) : (Instr.typeAssert (.iface 135 v) 110 135 true).run Tryz.prog w = .ok (.tuple #[v, .bool true]) w := by kernel_rfl
theorem Tryz.at82_82 (v : Value) (w : World) : (Instr.typeAssert (.iface 129 v) 110 129 true).run Tryz.prog w = .ok (.tuple #[v, .bool true]) w := by kernel_rfl
theorem Tryz.at80_82 (v : Value) (w : World) : (Instr.typeAssert (.iface 127 v) 110 129 true).run Tryz.prog w = .ok (.tuple #[.agg #[], .bool false]) w := by kernel_rfl
theorem Tryz.at85_82 (v : Value) (w : World) : (Instr.typeAssert (.iface 132 v) 110 129 true).run Tryz.prog w = .ok (.tuple #[.agg #[], .bool false]) w := by kernel_rfl
theorem Tryz.at86_82 (v : Value) (w : World) : (Instr.typeAssert (.iface 133 v) 110 129 true).run Tryz.prog w = .ok (.tuple #[.agg #[], .bool false]) w := by kernel_rfl
theorem Tryz.at88_82 (v : Value) (w : World) : (Instr.typeAssert (.iface 135 v) 110 129 true).run Tryz.prog w = .ok (.tuple #[.agg #[], .bool false]) w := by kernel_rfl

def TextAt (x : It) : Prop := ∀ w, Calls Tryz.prog 73 #[x.val] w fun e w' => e = .returned (.string x.text) ∧ Below w.heap.size w w'

set_option maxHeartbeats 1000000 in
theorem text_zero : TextAt .zero := by
  intro w
  have a1 := Tryz.as152_144
  have a2 := Tryz.at82_85
  have a3 := Tryz.at82_86
  have a4 := Tryz.at82_88
  simp only [It.val, It.text]
  go_enter Tryz.func73, Tryz.ntmps73
  go_wp2_with fail
  go_ret
  exact ⟨rfl, Below.refl _ _⟩
set_option maxHeartbeats 1000000 in
theorem text_param (s : ByteArray) : TextAt (.param s) := by
  intro w
  have a1 := Tryz.as149_144
  have a2 := Tryz.at88_85
  have a3 := Tryz.at88_86
  have a4 := Tryz.at88_88
  simp only [It.val, It.text]
  go_enter Tryz.func73, Tryz.ntmps73
  go_wp2_with fail
  go_ret
  exact ⟨rfl, bel_alloc (Below.refl _ _) _⟩

set_option maxHeartbeats 1000000 in
set_option maxRecDepth 100000 in
theorem text_succ0 (n : Nat) (hn : n < 100) : TextAt (.succ n .zero) := by
  intro w
  have a1 := Tryz.as144_144
  have a2 := Tryz.at82_82
  simp only [It.val, It.text, It.isZero, if_pos]
  go_enter Tryz.func73, Tryz.ntmps73
  go_wp2_with (first | (go_at_call 54; refine (itoa_any n hn _).mono ?_; rintro e w' ⟨rfl, rfl⟩) | fail)
  go_ret
  exact ⟨rfl, bel_alloc (bel_alloc (Below.refl _ _) _) _⟩
set_option maxHeartbeats 1000000 in
set_option maxRecDepth 100000 in
theorem text_succ (n : Nat) (x : It) (hx : x.isZero = false) (hn : n < 100) (hs : x.text.size ≤ 3840) (ih : TextAt x) : TextAt (.succ n x) := by
  intro w
  have a1 := Tryz.as144_144
  have IH := hide ih
  have hz : ∃ T v, x.val = .iface T v ∧ ∀ w, (Instr.typeAssert (.iface T v) 110 129 true).run Tryz.prog w = .ok (.tuple #[.agg #[], .bool false]) w := by
    cases x with
    | zero => cases hx
    | succ n y => exact ⟨_, _, rfl, Tryz.at80_82 _⟩
    | max a b => exact ⟨_, _, rfl, Tryz.at85_82 _⟩
    | imax a b => exact ⟨_, _, rfl, Tryz.at86_82 _⟩
    | param s => exact ⟨_, _, rfl, Tryz.at88_82 _⟩
  obtain ⟨T, v, hv, a2⟩ := hz
  simp only [It.val, It.text, hx]
  unfold TextAt at IH
  rw [hv] at IH ⊢
  clear hv ih hx
  generalize x.text = tx at *
  have ds := dec_size hn
  have z1 : ∀ w, (Op.stringOp .add tx (⟨#[43]⟩ : ByteArray)).run Tryz.prog w = .ok (.string (tx ++ (⟨#[43]⟩ : ByteArray))) w := fun w => run_string_add_sum w _ _ (by show tx.size + 1 ≤ _; omega)
  have z2 : ∀ w, (Op.stringOp .add (tx ++ ⟨#[43]⟩ : ByteArray) (dec n)).run Tryz.prog w = .ok (.string ((tx ++ ⟨#[43]⟩ : ByteArray) ++ (dec n))) w := fun w => run_string_add_sum w _ _ (by rw [ByteArray.size_append]; show tx.size + 1 + _ ≤ _; omega)
  have HI := hide (itoa_any n hn)
  change Hid (∀ w, Calls Tryz.prog 54 #[.int .i64 n] w fun e w' => e = .returned (.string (dec n)) ∧ w' = w) at HI
  generalize dec n = dn at *
  clear ds hs hn
  go_enter Tryz.func73, Tryz.ntmps73
  go_wp2_with fail
  go_region_held3 (fun w' => w'.cell? ⟨w.heap.size, 0, none⟩ = some (.int .i64 n) ∧ w'.cell? ⟨w.heap.size, 1, none⟩ = some (.iface T v))
    (first
      | go_keep
      | (go_split_ands; exact ⟨keep_cell hb1 (by assumption), keep_cell hb1 (by assumption)⟩)
      | fail)
    (first
      | (go_at_call 73; refine (IH.out _).mono ?_; rintro e w1 ⟨rfl, hb1⟩)
      | (go_at_call 54; refine (HI.out _).mono ?_; rintro e w2 ⟨rfl, hw⟩; have hw := hw.symm; subst hw)
      | fail)
  all_goals
    go_wp2_with fail
    go_ret
    exact ⟨rfl, (bel_alloc (bel_alloc (Below.refl _ _) _) _).drew.trans (hb1.mono (by simp; omega))⟩

set_option maxHeartbeats 2000000 in
set_option maxRecDepth 100000 in
theorem text_max (a b : It) (hz : a.text.size + b.text.size ≤ 10000) (iha : TextAt a) (ihb : TextAt b) : TextAt (.max a b) := by
  intro w
  have a0 := Tryz.as146_144
  have a1 := Tryz.at85_85
  have IHA := hide iha
  have IHB := hide ihb
  simp only [It.val, It.text]
  obtain ⟨Ta, va, hva⟩ := a.val_iface
  obtain ⟨Tb, vb, hvb⟩ := b.val_iface
  unfold TextAt at IHA IHB
  rw [hva] at IHA ⊢
  rw [hvb] at IHB ⊢
  clear hva hvb iha ihb
  generalize a.text = x at *
  generalize b.text = y at *
  obtain ⟨m, hm⟩ : ∃ m : ByteArray, m = ⟨#[109, 97, 120, 40]⟩ := ⟨_, rfl⟩
  have hms : m.size = 4 := by rw [hm]; rfl
  have z1 : ∀ w, (Op.stringOp .add (⟨#[109, 97, 120, 40]⟩ : ByteArray) x).run Tryz.prog w = .ok (.string ((⟨#[109, 97, 120, 40]⟩ : ByteArray) ++ x)) w := fun w => run_string_add_sum w _ _ (by rw [← hm]; omega)
  have z2 : ∀ w, (Op.stringOp .add (⟨#[109, 97, 120, 40]⟩ ++ x : ByteArray) (⟨#[44]⟩ : ByteArray)).run Tryz.prog w = .ok (.string ((⟨#[109, 97, 120, 40]⟩ ++ x : ByteArray) ++ (⟨#[44]⟩ : ByteArray))) w := fun w => run_string_add_sum w _ _ (by rw [← hm, ByteArray.size_append, show (⟨#[44]⟩ : ByteArray).size = 1 from rfl]; omega)
  have z3 : ∀ w, (Op.stringOp .add (⟨#[109, 97, 120, 40]⟩ ++ x ++ ⟨#[44]⟩ : ByteArray) y).run Tryz.prog w = .ok (.string ((⟨#[109, 97, 120, 40]⟩ ++ x ++ ⟨#[44]⟩ : ByteArray) ++ y)) w := fun w => run_string_add_sum w _ _ (by rw [← hm, ByteArray.size_append, ByteArray.size_append, show (⟨#[44]⟩ : ByteArray).size = 1 from rfl]; omega)
  have z4 : ∀ w, (Op.stringOp .add (⟨#[109, 97, 120, 40]⟩ ++ x ++ ⟨#[44]⟩ ++ y : ByteArray) (⟨#[41]⟩ : ByteArray)).run Tryz.prog w = .ok (.string ((⟨#[109, 97, 120, 40]⟩ ++ x ++ ⟨#[44]⟩ ++ y : ByteArray) ++ (⟨#[41]⟩ : ByteArray))) w := fun w => run_string_add_sum w _ _ (by rw [← hm, ByteArray.size_append, ByteArray.size_append, ByteArray.size_append, show (⟨#[44]⟩ : ByteArray).size = 1 from rfl, show (⟨#[41]⟩ : ByteArray).size = 1 from rfl]; omega)
  clear hms hm hz
  go_enter Tryz.func73, Tryz.ntmps73
  go_wp2_with fail
  go_region_held3 (fun w' => w'.cell? ⟨w.heap.size, 0, none⟩ = some (.iface Ta va) ∧ w'.cell? ⟨w.heap.size, 1, none⟩ = some (.iface Tb vb))
    (first
      | go_keep
      | (go_split_ands; exact ⟨keep_cell hb2 (by assumption), keep_cell hb2 (by assumption)⟩)
      | (go_split_ands; exact ⟨keep_cell hb1 (by assumption), keep_cell hb1 (by assumption)⟩)
      | fail)
    (first
      | (go_at_call_of 73 (Value.iface Ta va); refine (IHA.out _).mono ?_; rintro e w1 ⟨rfl, hb1⟩)
      | (go_at_call_of 73 (Value.iface Tb vb); refine (IHB.out _).mono ?_; rintro e w2 ⟨rfl, hb2⟩)
      | fail)
  all_goals go_wp2_with fail
  all_goals
    go_ret
    exact ⟨rfl, bel_trans ((bel_alloc (Below.refl _ _) _).drew.trans (hb1.mono (by simp))) hb2⟩
set_option maxHeartbeats 2000000 in
set_option maxRecDepth 100000 in
theorem text_imax (a b : It) (hz : a.text.size + b.text.size ≤ 10000) (iha : TextAt a) (ihb : TextAt b) : TextAt (.imax a b) := by
  intro w
  have a0 := Tryz.as147_144
  have a1 := Tryz.at86_85
  have a2 := Tryz.at86_86
  have IHA := hide iha
  have IHB := hide ihb
  simp only [It.val, It.text]
  obtain ⟨Ta, va, hva⟩ := a.val_iface
  obtain ⟨Tb, vb, hvb⟩ := b.val_iface
  unfold TextAt at IHA IHB
  rw [hva] at IHA ⊢
  rw [hvb] at IHB ⊢
  clear hva hvb iha ihb
  generalize a.text = x at *
  generalize b.text = y at *
  obtain ⟨m, hm⟩ : ∃ m : ByteArray, m = ⟨#[105, 109, 97, 120, 40]⟩ := ⟨_, rfl⟩
  have hms : m.size = 5 := by rw [hm]; rfl
  have z1 : ∀ w, (Op.stringOp .add (⟨#[105, 109, 97, 120, 40]⟩ : ByteArray) x).run Tryz.prog w = .ok (.string ((⟨#[105, 109, 97, 120, 40]⟩ : ByteArray) ++ x)) w := fun w => run_string_add_sum w _ _ (by rw [← hm]; omega)
  have z2 : ∀ w, (Op.stringOp .add (⟨#[105, 109, 97, 120, 40]⟩ ++ x : ByteArray) (⟨#[44]⟩ : ByteArray)).run Tryz.prog w = .ok (.string ((⟨#[105, 109, 97, 120, 40]⟩ ++ x : ByteArray) ++ (⟨#[44]⟩ : ByteArray))) w := fun w => run_string_add_sum w _ _ (by rw [← hm, ByteArray.size_append, show (⟨#[44]⟩ : ByteArray).size = 1 from rfl]; omega)
  have z3 : ∀ w, (Op.stringOp .add (⟨#[105, 109, 97, 120, 40]⟩ ++ x ++ ⟨#[44]⟩ : ByteArray) y).run Tryz.prog w = .ok (.string ((⟨#[105, 109, 97, 120, 40]⟩ ++ x ++ ⟨#[44]⟩ : ByteArray) ++ y)) w := fun w => run_string_add_sum w _ _ (by rw [← hm, ByteArray.size_append, ByteArray.size_append, show (⟨#[44]⟩ : ByteArray).size = 1 from rfl]; omega)
  have z4 : ∀ w, (Op.stringOp .add (⟨#[105, 109, 97, 120, 40]⟩ ++ x ++ ⟨#[44]⟩ ++ y : ByteArray) (⟨#[41]⟩ : ByteArray)).run Tryz.prog w = .ok (.string ((⟨#[105, 109, 97, 120, 40]⟩ ++ x ++ ⟨#[44]⟩ ++ y : ByteArray) ++ (⟨#[41]⟩ : ByteArray))) w := fun w => run_string_add_sum w _ _ (by rw [← hm, ByteArray.size_append, ByteArray.size_append, ByteArray.size_append, show (⟨#[44]⟩ : ByteArray).size = 1 from rfl, show (⟨#[41]⟩ : ByteArray).size = 1 from rfl]; omega)
  clear hms hm hz
  go_enter Tryz.func73, Tryz.ntmps73
  go_wp2_with fail
  go_region_held3 (fun w' => w'.cell? ⟨w.heap.size, 0, none⟩ = some (.iface Ta va) ∧ w'.cell? ⟨w.heap.size, 1, none⟩ = some (.iface Tb vb))
    (first
      | go_keep
      | (go_split_ands; exact ⟨keep_cell hb2 (by assumption), keep_cell hb2 (by assumption)⟩)
      | (go_split_ands; exact ⟨keep_cell hb1 (by assumption), keep_cell hb1 (by assumption)⟩)
      | fail)
    (first
      | (go_at_call_of 73 (Value.iface Ta va); refine (IHA.out _).mono ?_; rintro e w1 ⟨rfl, hb1⟩)
      | (go_at_call_of 73 (Value.iface Tb vb); refine (IHB.out _).mono ?_; rintro e w2 ⟨rfl, hb2⟩)
      | fail)
  all_goals go_wp2_with fail
  all_goals
    go_ret
    exact ⟨rfl, bel_trans ((bel_alloc (Below.refl _ _) _).drew.trans (hb1.mono (by simp))) hb2⟩
theorem text_all : ∀ x : It, x.pos → x.cnt ≤ 64 → (∀ s ∈ x.params, s.size ≤ 40) → TextAt x
  | .zero, _, _, _ => text_zero
  | .succ n x, hq, hc, hp => by
    simp only [It.cnt] at hc
    have hx := It.text_size x hq.2 (by omega) hp
    cases hz : x.isZero with
    | true =>
      cases x with
      | zero => exact text_succ0 n (by omega)
      | succ _ _ => cases hz
      | max _ _ => cases hz
      | imax _ _ => cases hz
      | param _ => cases hz
    | false => exact text_succ n x hz (by omega) (by omega) (text_all x hq.2 (by omega) hp)
  | .max a b, hq, hc, hp => by
    simp only [It.cnt] at hc
    simp only [It.params] at hp
    have ha := It.text_size a hq.1 (by omega) (fun s hs => hp s (by simp [hs]))
    have hb := It.text_size b hq.2 (by omega) (fun s hs => hp s (by simp [hs]))
    exact text_max a b (by omega) (text_all a hq.1 (by omega) (fun s hs => hp s (by simp [hs]))) (text_all b hq.2 (by omega) (fun s hs => hp s (by simp [hs])))
  | .imax a b, hq, hc, hp => by
    simp only [It.cnt] at hc
    simp only [It.params] at hp
    have ha := It.text_size a hq.1 (by omega) (fun s hs => hp s (by simp [hs]))
    have hb := It.text_size b hq.2 (by omega) (fun s hs => hp s (by simp [hs]))
    exact text_imax a b (by omega) (text_all a hq.1 (by omega) (fun s hs => hp s (by simp [hs]))) (text_all b hq.2 (by omega) (fun s hs => hp s (by simp [hs])))
  | .param s, _, _, _ => text_param s

/-- The parameters of a sound tree are short. -/
theorem params_short : ∀ t : Tr, t.ok → ∀ s ∈ t.it.params, s.size ≤ 40
  | .leaf k s, h, x, hx => by
    obtain ⟨h1, h2⟩ := h
    rcases h1 with rfl | rfl
    · simp [Tr.it, It.params] at hx
    · simp only [Tr.it, It.params, if_neg (show ¬ (5 : Int) = 1 by omega), List.mem_singleton] at hx
      subst hx
      unfold fieldsB at h2
      rw [if_pos rfl] at h2
      unfold paramB shortB at h2
      simp only [Bool.and_eq_true, decide_eq_true_eq] at h2
      exact h2.1.1.1.1.2
  | .one _ _ a, h, x, hx => by
    simp only [Tr.it, params_around] at hx
    exact params_short a h.2.2 x hx
  | .two k _ a b, h, x, hx => by
    have : x ∈ a.it.params ++ b.it.params := by
      simp only [Tr.it] at hx
      split at hx <;> exact hx
    rcases List.mem_append.1 this with h1 | h1
    · exact params_short a h.2.2.1 x h1
    · exact params_short b h.2.2.2 x h1

set_option maxHeartbeats 1000000 in
theorem implText_any (v : Value) (ns : List Nd) (w : World) (hns : NodesAt w v ns) (hsz : ∀ nd ∈ ns, nd.s.size ≤ maxLen) (t : Tr) (hl : lvlB ns = true) (hflat : ns = t.flat 0) (hok : t.ok) (hc : ns.length ≤ 64) :
    Calls Tryz.prog 55 #[.agg #[v]] w fun e w' => e = .returned (.string t.it.text) ∧ Below w.heap.size w w' := by
  have HN := hide hns
  have HZ := hide hsz
  have HL := hide hl
  have HFL := hide hflat
  have HOK := hide hok
  have HT := hide (text_all t.it (it_pos t) (by rw [it_cnt t hok, ← flat_cnt hflat]; exact hc) (params_short t hok))
  unfold TextAt at HT
  obtain ⟨a, cap, rfl, _, _, _⟩ := hns
  obtain ⟨Ti, vi, hvi⟩ := t.it.val_iface
  have HV := hide hvi
  clear hsz hl hflat hok hvi
  go_enter Tryz.func55, Tryz.ntmps55
  go_wp2_with fail
  refine (implLevelOk_any _ ns _ (HN.out.keep (bel_alloc (Below.refl _ _) _)) HZ.out).mono ?_
  rintro e w1 ⟨rfl, hb1⟩
  rw [HL.out]
  have c1 := keep_cell (b := w.heap.size) (o := 0) (v := .slice a ns.length cap) hb1 (by simp [go_sem])
  have hbel1 := bel_trans (bel_alloc (Below.refl w.heap.size w) _) hb1
  clear hb1
  go_wp2_with fail
  refine (levelTreeOf_any _ ns t _ (HN.out.keep hbel1) HFL.out HOK.out hc).mono ?_
  rintro e w2 ⟨rfl, hb2⟩
  have hbel2 := bel_trans hbel1 hb2
  clear hb2 hbel1 c1
  rw [HV.out] at HT ⊢
  go_wp2_with fail
  refine (HT.out _).mono ?_
  rintro e w3 ⟨rfl, hb3⟩
  have hbel3 := bel_trans hbel2 hb3
  go_wp2_with fail
  go_ret
  exact ⟨rfl, hbel3⟩
end Go.Proofs.YtcagcfhnbphggaaGreatDoor
