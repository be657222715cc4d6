/- What the program's levelNumberAt answers at a tree: its number, for a function that gives the parameters' values. -/
import Derived.Test.YtnifepmaijfllaaIv
import Derived.Deep.RegionWith
import Derived.Deep.RegionHeld3
namespace Go.Proofs.Ytnifepmaijfllaa
open Go.ChangeShapes Go.WideShapes Go.ChangeAt Go.RowKit

theorem Try.as152_146 (v : Value) (w : World) : (Instr.typeAssert (.iface 152 v) 99 146 true).run Try.prog w = .ok (.tuple #[.agg #[.nilIface, .nilIface], .bool false]) w := by kernel_rfl
theorem Try.as146_146 (v : Value) (w : World) : (Instr.typeAssert (.iface 146 v) 99 146 true).run Try.prog w = .ok (.tuple #[v, .bool true]) w := by kernel_rfl
theorem Try.as147_146 (v : Value) (w : World) : (Instr.typeAssert (.iface 147 v) 99 146 true).run Try.prog w = .ok (.tuple #[.agg #[.nilIface, .nilIface], .bool false]) w := by kernel_rfl
theorem Try.as149_146 (v : Value) (w : World) : (Instr.typeAssert (.iface 149 v) 99 146 true).run Try.prog w = .ok (.tuple #[.agg #[.nilIface, .nilIface], .bool false]) w := by kernel_rfl
theorem Try.as152_147 (v : Value) (w : World) : (Instr.typeAssert (.iface 152 v) 99 147 true).run Try.prog w = .ok (.tuple #[.agg #[.nilIface, .nilIface], .bool false]) w := by kernel_rfl
theorem Try.as147_147 (v : Value) (w : World) : (Instr.typeAssert (.iface 147 v) 99 147 true).run Try.prog w = .ok (.tuple #[v, .bool true]) w := by kernel_rfl
theorem Try.as149_147 (v : Value) (w : World) : (Instr.typeAssert (.iface 149 v) 99 147 true).run Try.prog w = .ok (.tuple #[.agg #[.nilIface, .nilIface], .bool false]) w := by kernel_rfl
theorem Try.as152_149 (v : Value) (w : World) : (Instr.typeAssert (.iface 152 v) 99 149 true).run Try.prog w = .ok (.tuple #[.agg #[.string ⟨#[]⟩], .bool false]) w := by kernel_rfl
theorem Try.as149_149 (v : Value) (w : World) : (Instr.typeAssert (.iface 149 v) 99 149 true).run Try.prog w = .ok (.tuple #[v, .bool true]) w := by kernel_rfl

theorem num_bd (f : ByteArray → Int) (hf : ∀ s, 0 ≤ f s ∧ f s ≤ 1000000) : ∀ x : It, 0 ≤ x.num f ∧ x.num f ≤ 1000000 + x.cnt
  | .zero => by simp [It.num, It.cnt]
  | .succ n x => by have := num_bd f hf x; simp only [It.num, It.cnt]; omega
  | .max a b => by have := num_bd f hf a; have := num_bd f hf b; simp only [It.num, It.cnt]; split <;> omega
  | .imax a b => by
    have := num_bd f hf a
    have := num_bd f hf b
    simp only [It.num, It.cnt]; split
    · omega
    · split <;> omega
  | .param s => by have := hf s; simp only [It.num, It.cnt]; omega

/-- What is said of a call of levelNumberAt at a tree, in the worlds that O lets in. -/
def NumAt (fv : Value) (f : ByteArray → Int) (O : World → Prop) (x : It) : Prop :=
  ∀ w, O w → Calls Try.prog 77 #[x.val, fv] w fun e w' => e = .returned (.int .i64 (x.num f)) ∧ Below w.heap.size w w'
/-- O is kept where the world only grows. -/
def Grows (O : World → Prop) : Prop := ∀ w w', O w → Below w.heap.size w w' → O w'

set_option maxHeartbeats 1000000 in
theorem num_zero (fv : Value) (f : ByteArray → Int) (O : World → Prop) : NumAt fv f O .zero := by
  intro w _
  have a1 := Try.as152_144
  have a2 := Try.as152_146
  have a3 := Try.as152_147
  have a4 := Try.as152_149
  simp only [It.val, It.num]
  go_enter Try.func77, Try.ntmps77
  go_wp2_with fail
  go_ret
  exact ⟨rfl, Below.refl _ _⟩

set_option maxHeartbeats 1000000 in
theorem num_succ (fv : Value) (f : ByteArray → Int) (O : World → Prop) (hO : Grows O) (hf : ∀ s, 0 ≤ f s ∧ f s ≤ 1000000) (n : Nat) (x : It) (hc : (It.succ n x).cnt ≤ 1000) (ih : NumAt fv f O x) : NumAt fv f O (.succ n x) := by
  intro w hw
  have a1 := Try.as144_144
  have hb := num_bd f hf x
  simp only [It.cnt] at hc
  have IH := hide ih
  have HOG := hide hO
  have HW := hide hw
  simp only [It.val, It.num]
  obtain ⟨T, v, hv⟩ := x.val_iface
  unfold NumAt at IH
  rw [hv] at IH ⊢
  clear hv hw ih hO hf
  generalize x.num f = y at *
  obtain ⟨b1, b2⟩ := hb
  have b3 : y ≤ 1001000 := by omega
  have b4 : n ≤ 1000 := by omega
  have hwr : IntKind.i64.wrap ((n : Int) + y) = (n : Int) + y := by rw [IntKind.wrap_i64]; omega
  clear b2
  go_enter Try.func77, Try.ntmps77
  go_wp2_with fail
  go_region_held3 (fun w' => w'.cell? ⟨w.heap.size, 0, none⟩ = some (.int .i64 n) ∧ w'.cell? ⟨w.heap.size, 1, none⟩ = some (.iface T v))
    (first
      | go_keep
      | (go_split_ands; exact ⟨keep_cell hb1 (by assumption), keep_cell hb1 (by assumption)⟩)
      | fail)
    (first
      | (go_at_call 77; refine (IH.out _ (by exact HOG.out _ _ HW.out (bel_alloc (Below.refl _ _) _).drew)).mono ?_; rintro e w1 ⟨rfl, hb1⟩)
      | fail)
  all_goals
    go_wp2_with fail
    go_ret
    exact ⟨rfl, (bel_alloc (Below.refl _ _) _).drew.trans (hb1.mono (by simp))⟩

set_option maxHeartbeats 2000000 in
theorem num_max (fv : Value) (f : ByteArray → Int) (O : World → Prop) (hO : Grows O) (a b : It) (iha : NumAt fv f O a) (ihb : NumAt fv f O b) : NumAt fv f O (.max a b) := by
  intro w hw
  have a0 := Try.as146_144
  have a1 := Try.as146_146
  have IHA := hide iha
  have IHB := hide ihb
  have HOG := hide hO
  have HW := hide hw
  simp only [It.val, It.num]
  obtain ⟨Ta, va, hva⟩ := a.val_iface
  obtain ⟨Tb, vb, hvb⟩ := b.val_iface
  unfold NumAt at IHA IHB
  rw [hva] at IHA ⊢
  rw [hvb] at IHB ⊢
  clear hva hvb hw iha ihb hO
  generalize a.num f = x at *
  generalize b.num f = y at *
  go_enter Try.func77, Try.ntmps77
  go_wp2_with fail
  go_region_held3 (fun w' => w'.cell? ⟨w.heap.size, 0, none⟩ = some (.iface Ta va) ∧ w'.cell? ⟨w.heap.size, 1, none⟩ = some (.iface Tb vb))
    (first
      | go_keep
      | (go_split_ands; exact ⟨keep_cell hb2 (by assumption), keep_cell hb2 (by assumption)⟩)
      | (go_split_ands; exact ⟨keep_cell hb1 (by assumption), keep_cell hb1 (by assumption)⟩)
      | fail)
    (first
      | (go_at_call_of 77 (Value.iface Ta va); refine (IHA.out _ (by exact HOG.out _ _ HW.out (bel_alloc (Below.refl _ _) _).drew)).mono ?_; rintro e w1 ⟨rfl, hb1⟩)
      | (go_at_call_of 77 (Value.iface Tb vb); refine (IHB.out _ (by exact HOG.out _ _ HW.out ((bel_alloc (Below.refl _ _) _).drew.trans (hb1.mono (by simp))))).mono ?_; rintro e w2 ⟨rfl, hb2⟩)
      | fail)
  all_goals go_wp2_with fail
  all_goals
    go_ret
    first
      | exact ⟨rfl, bel_trans ((bel_alloc (Below.refl _ _) _).drew.trans (hb1.mono (by simp))) hb2⟩
      | exact ⟨ret_int (by omega), bel_trans ((bel_alloc (Below.refl _ _) _).drew.trans (hb1.mono (by simp))) hb2⟩

set_option maxHeartbeats 2000000 in
theorem num_imax (fv : Value) (f : ByteArray → Int) (O : World → Prop) (hO : Grows O) (a b : It) (iha : NumAt fv f O a) (ihb : NumAt fv f O b) : NumAt fv f O (.imax a b) := by
  intro w hw
  have a0 := Try.as147_144
  have a1 := Try.as147_146
  have a2 := Try.as147_147
  have IHA := hide iha
  have IHB := hide ihb
  have HOG := hide hO
  have HW := hide hw
  simp only [It.val, It.num]
  obtain ⟨Ta, va, hva⟩ := a.val_iface
  obtain ⟨Tb, vb, hvb⟩ := b.val_iface
  unfold NumAt at IHA IHB
  rw [hva] at IHA ⊢
  rw [hvb] at IHB ⊢
  clear hva hvb hw iha ihb hO
  generalize a.num f = x at *
  generalize b.num f = y at *
  by_cases hy : y = 0
  · have q : (y == 0) = true := beq_iff_eq.2 hy
    rw [if_pos hy]
    clear hy
    go_enter Try.func77, Try.ntmps77
    go_wp2_with fail
    refine (IHB.out _ (HOG.out _ _ HW.out (bel_alloc (Below.refl _ _) _))).mono ?_
    rintro e w1 ⟨rfl, hb1⟩
    have hbel1 := bel_trans (bel_alloc (Below.refl w.heap.size w) _) hb1
    clear hb1
    go_wp2_with fail
    go_ret
    exact ⟨rfl, hbel1⟩
  · have q : (y == 0) = false := beq_eq_false_iff_ne.2 hy
    rw [if_neg hy]
    clear hy
    go_enter Try.func77, Try.ntmps77
    go_wp2_with fail
    refine (IHB.out _ (HOG.out _ _ HW.out (bel_alloc (Below.refl _ _) _))).mono ?_
    rintro e w1 ⟨rfl, hb1⟩
    have c0 := keep_cell (b := w.heap.size) (o := 0) (v := .iface Ta va) hb1 (by simp [go_sem])
    have hbel1 := bel_trans (bel_alloc (Below.refl w.heap.size w) _) hb1
    clear hb1
    go_wp2_with fail
    refine (IHA.out _ (HOG.out _ _ HW.out hbel1)).mono ?_
    rintro e w2 ⟨rfl, hb2⟩
    have hbel2 := bel_trans hbel1 hb2
    clear hb2
    go_wp2_with fail
    all_goals
      go_ret
      first | exact ⟨rfl, hbel2⟩ | exact ⟨ret_int (by omega), hbel2⟩

theorem num_all (fv : Value) (f : ByteArray → Int) (O : World → Prop) (hO : Grows O) (hf : ∀ s, 0 ≤ f s ∧ f s ≤ 1000000) (P : ByteArray → Prop) (hp : ∀ s, P s → NumAt fv f O (.param s)) : ∀ x : It, x.cnt ≤ 1000 → (∀ s ∈ x.params, P s) → NumAt fv f O x
  | .zero, _, _ => num_zero fv f O
  | .succ n x, hc, hs => num_succ fv f O hO hf n x hc (num_all fv f O hO hf P hp x (by simp only [It.cnt] at hc; omega) hs)
  | .max a b, hc, hs => num_max fv f O hO a b (num_all fv f O hO hf P hp a (by simp only [It.cnt] at hc; omega) (fun s h => hs s (by simp [It.params, h]))) (num_all fv f O hO hf P hp b (by simp only [It.cnt] at hc; omega) (fun s h => hs s (by simp [It.params, h])))
  | .imax a b, hc, hs => num_imax fv f O hO a b (num_all fv f O hO hf P hp a (by simp only [It.cnt] at hc; omega) (fun s h => hs s (by simp [It.params, h]))) (num_all fv f O hO hf P hp b (by simp only [It.cnt] at hc; omega) (fun s h => hs s (by simp [It.params, h])))
  | .param s, _, hs => hp s (hs s (by simp [It.params]))

set_option maxHeartbeats 1000000 in
theorem zero_fn (s : ByteArray) (w : World) : Calls Try.prog 84 #[.string s] w fun e w' => e = .returned (.int .i64 0) ∧ w' = w := by
  go_enter Try.func84, Try.ntmps84
  go_wp2_with fail
  go_ret
  exact ⟨rfl, rfl⟩
set_option maxHeartbeats 1000000 in
theorem one_fn (s : ByteArray) (w : World) : Calls Try.prog 85 #[.string s] w fun e w' => e = .returned (.int .i64 1) ∧ w' = w := by
  go_enter Try.func85, Try.ntmps85
  go_wp2_with fail
  go_ret
  exact ⟨rfl, rfl⟩
end Go.Proofs.Ytnifepmaijfllaa
