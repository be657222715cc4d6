/- What the program's hasParam and decides answer at a tree. -/
import Derived.Test.YtnhkpmgfgiolbaaNum
import Derived.Test.YtnhkpmgfgiolbaaLeq
namespace Go.Proofs.Ytnhkpmgfgiolbaa
open Go.ChangeShapes Go.WideShapes Go.ChangeAt Go.RowKit

/-- What is said of a call at a tree and a text that answers a truth. -/
def AskAt (fn : Nat) (p : ByteArray → It → Bool) (x : It) : Prop :=
  ∀ (s : ByteArray) (w : World), Calls Try.prog fn #[x.val, .string s] w fun e w' => e = .returned (.bool (p s x)) ∧ Below w.heap.size w w'

set_option maxHeartbeats 1000000 in
theorem has_zero : AskAt 163 hasP .zero := by
  intro s w
  have a1 := Try.as152_144
  have a2 := Try.as152_146
  have a3 := Try.as152_147
  have a4 := Try.as152_149
  simp only [It.val, hasP]
  go_enter Try.func163, Try.ntmps163
  go_wp2_with fail
  go_ret
  exact ⟨rfl, Below.refl _ _⟩
set_option maxHeartbeats 1000000 in
theorem has_param (r : ByteArray) : AskAt 163 hasP (.param r) := by
  intro s w
  have a1 := Try.as149_144
  have a2 := Try.as149_146
  have a3 := Try.as149_147
  have a4 := Try.as149_149
  have HB : Hid ((r.toList == s.toList) = decide (r = s)) := beq_bytes r s
  simp only [It.val, hasP]
  go_enter Try.func163, Try.ntmps163
  go_wp2_with fail
  go_ret
  exact ⟨ret_bool HB.out, bel_alloc (Below.refl _ _) _⟩
set_option maxHeartbeats 1000000 in
theorem has_succ (n : Nat) (x : It) (ih : AskAt 163 hasP x) : AskAt 163 hasP (.succ n x) := by
  intro s w
  have a1 := Try.as144_144
  have IH := hide (ih s)
  simp only [It.val, hasP]
  obtain ⟨T, v, hv⟩ := x.val_iface
  rw [hv] at IH ⊢
  clear hv ih
  generalize hasP s x = q at *
  go_enter Try.func163, Try.ntmps163
  go_wp2_with fail
  refine (IH.out _).mono ?_
  rintro e w1 ⟨rfl, hb1⟩
  have hbel1 := bel_trans (bel_alloc (Below.refl w.heap.size w) _) hb1
  clear hb1
  go_wp2_with fail
  go_ret
  exact ⟨rfl, hbel1⟩
set_option maxHeartbeats 2000000 in
theorem has_max (a b : It) (iha : AskAt 163 hasP a) (ihb : AskAt 163 hasP b) : AskAt 163 hasP (.max a b) := by
  intro s w
  have a0 := Try.as146_144
  have a1 := Try.as146_146
  have IHA := hide (iha s)
  have IHB := hide (ihb s)
  simp only [It.val, hasP]
  obtain ⟨Ta, va, hva⟩ := a.val_iface
  obtain ⟨Tb, vb, hvb⟩ := b.val_iface
  rw [hva] at IHA ⊢
  rw [hvb] at IHB ⊢
  clear hva hvb iha ihb
  generalize hasP s b = qb at *
  generalize hasP s a = qa at *
  cases qa
  · go_enter Try.func163, Try.ntmps163
    go_wp2_with fail
    refine (IHA.out _).mono ?_
    rintro e w1 ⟨rfl, hb1⟩
    have c1 := keep_cell (b := w.heap.size) (o := 1) (v := .iface Tb vb) hb1 (by simp [go_sem])
    have hbel1 := bel_trans (bel_alloc (Below.refl w.heap.size w) _) hb1
    clear hb1
    go_wp2_with fail
    refine (IHB.out _).mono ?_
    rintro e w2 ⟨rfl, hb2⟩
    have hbel2 := bel_trans hbel1 hb2
    clear hb2
    go_wp2_with fail
    go_ret
    exact ⟨rfl, hbel2⟩
  · go_enter Try.func163, Try.ntmps163
    go_wp2_with fail
    refine (IHA.out _).mono ?_
    rintro e w1 ⟨rfl, hb1⟩
    have hbel1 := bel_trans (bel_alloc (Below.refl w.heap.size w) _) hb1
    clear hb1
    go_wp2_with fail
    go_ret
    exact ⟨rfl, hbel1⟩
set_option maxHeartbeats 2000000 in
theorem has_imax (a b : It) (iha : AskAt 163 hasP a) (ihb : AskAt 163 hasP b) : AskAt 163 hasP (.imax a b) := by
  intro s w
  have a0 := Try.as147_144
  have a1 := Try.as147_146
  have a2 := Try.as147_147
  have IHA := hide (iha s)
  have IHB := hide (ihb s)
  simp only [It.val, hasP]
  obtain ⟨Ta, va, hva⟩ := a.val_iface
  obtain ⟨Tb, vb, hvb⟩ := b.val_iface
  rw [hva] at IHA ⊢
  rw [hvb] at IHB ⊢
  clear hva hvb iha ihb
  generalize hasP s b = qb at *
  generalize hasP s a = qa at *
  cases qa
  · go_enter Try.func163, Try.ntmps163
    go_wp2_with fail
    refine (IHA.out _).mono ?_
    rintro e w1 ⟨rfl, hb1⟩
    have c1 := keep_cell (b := w.heap.size) (o := 1) (v := .iface Tb vb) hb1 (by simp [go_sem])
    have hbel1 := bel_trans (bel_alloc (Below.refl w.heap.size w) _) hb1
    clear hb1
    go_wp2_with fail
    refine (IHB.out _).mono ?_
    rintro e w2 ⟨rfl, hb2⟩
    have hbel2 := bel_trans hbel1 hb2
    clear hb2
    go_wp2_with fail
    go_ret
    exact ⟨rfl, hbel2⟩
  · go_enter Try.func163, Try.ntmps163
    go_wp2_with fail
    refine (IHA.out _).mono ?_
    rintro e w1 ⟨rfl, hb1⟩
    have hbel1 := bel_trans (bel_alloc (Below.refl w.heap.size w) _) hb1
    clear hb1
    go_wp2_with fail
    go_ret
    exact ⟨rfl, hbel1⟩
theorem hasParam_any : ∀ x : It, AskAt 163 hasP x
  | .zero => has_zero
  | .succ n x => has_succ n x (hasParam_any x)
  | .max a b => has_max a b (hasParam_any a) (hasParam_any b)
  | .imax a b => has_imax a b (hasParam_any a) (hasParam_any b)
  | .param r => has_param r

set_option maxHeartbeats 1000000 in
theorem dec_zero : AskAt 125 decP .zero := by
  intro s w
  have a1 := Try.as152_144
  have a2 := Try.as152_146
  have a3 := Try.as152_147
  simp only [It.val, decP]
  go_enter Try.func125, Try.ntmps125
  go_wp2_with fail
  go_ret
  exact ⟨rfl, Below.refl _ _⟩
set_option maxHeartbeats 1000000 in
theorem dec_param (r : ByteArray) : AskAt 125 decP (.param r) := by
  intro s w
  have a1 := Try.as149_144
  have a2 := Try.as149_146
  have a3 := Try.as149_147
  simp only [It.val, decP]
  go_enter Try.func125, Try.ntmps125
  go_wp2_with fail
  go_ret
  exact ⟨rfl, Below.refl _ _⟩
set_option maxHeartbeats 1000000 in
theorem dec_succ (n : Nat) (x : It) (ih : AskAt 125 decP x) : AskAt 125 decP (.succ n x) := by
  intro s w
  have a1 := Try.as144_144
  have IH := hide (ih s)
  simp only [It.val, decP]
  obtain ⟨T, v, hv⟩ := x.val_iface
  rw [hv] at IH ⊢
  clear hv ih
  generalize decP s x = q at *
  go_enter Try.func125, Try.ntmps125
  go_wp2_with fail
  refine (IH.out _).mono ?_
  rintro e w1 ⟨rfl, hb1⟩
  have hbel1 := bel_trans (bel_alloc (Below.refl w.heap.size w) _) hb1
  clear hb1
  go_wp2_with fail
  go_ret
  exact ⟨rfl, hbel1⟩
set_option maxHeartbeats 2000000 in
theorem dec_max (a b : It) (iha : AskAt 125 decP a) (ihb : AskAt 125 decP b) : AskAt 125 decP (.max a b) := by
  intro s w
  have a0 := Try.as146_144
  have a1 := Try.as146_146
  have IHA := hide (iha s)
  have IHB := hide (ihb s)
  simp only [It.val, decP]
  obtain ⟨Ta, va, hva⟩ := a.val_iface
  obtain ⟨Tb, vb, hvb⟩ := b.val_iface
  rw [hva] at IHA ⊢
  rw [hvb] at IHB ⊢
  clear hva hvb iha ihb
  generalize decP s b = qb at *
  generalize decP s a = qa at *
  cases qa
  · go_enter Try.func125, Try.ntmps125
    go_wp2_with fail
    refine (IHA.out _).mono ?_
    rintro e w1 ⟨rfl, hb1⟩
    have c1 := keep_cell (b := w.heap.size) (o := 1) (v := .iface Tb vb) hb1 (by simp [go_sem])
    have hbel1 := bel_trans (bel_alloc (Below.refl w.heap.size w) _) hb1
    clear hb1
    go_wp2_with fail
    refine (IHB.out _).mono ?_
    rintro e w2 ⟨rfl, hb2⟩
    have hbel2 := bel_trans hbel1 hb2
    clear hb2
    go_wp2_with fail
    go_ret
    exact ⟨rfl, hbel2⟩
  · go_enter Try.func125, Try.ntmps125
    go_wp2_with fail
    refine (IHA.out _).mono ?_
    rintro e w1 ⟨rfl, hb1⟩
    have hbel1 := bel_trans (bel_alloc (Below.refl w.heap.size w) _) hb1
    clear hb1
    go_wp2_with fail
    go_ret
    exact ⟨rfl, hbel1⟩
set_option maxHeartbeats 2000000 in
theorem dec_imax (a b : It) (iha : AskAt 125 decP a) (ihb : AskAt 163 hasP b) : AskAt 125 decP (.imax a b) := by
  intro s w
  have a0 := Try.as147_144
  have a1 := Try.as147_146
  have a2 := Try.as147_147
  have IHA := hide (iha s)
  have IHB := hide (ihb s)
  simp only [It.val, decP]
  obtain ⟨Ta, va, hva⟩ := a.val_iface
  obtain ⟨Tb, vb, hvb⟩ := b.val_iface
  rw [hva] at IHA ⊢
  rw [hvb] at IHB ⊢
  clear hva hvb iha ihb
  generalize hasP s b = qb at *
  generalize decP s a = qa at *
  cases qa
  · go_enter Try.func125, Try.ntmps125
    go_wp2_with fail
    refine (IHA.out _).mono ?_
    rintro e w1 ⟨rfl, hb1⟩
    have c1 := keep_cell (b := w.heap.size) (o := 1) (v := .iface Tb vb) hb1 (by simp [go_sem])
    have hbel1 := bel_trans (bel_alloc (Below.refl w.heap.size w) _) hb1
    clear hb1
    go_wp2_with fail
    refine (IHB.out _).mono ?_
    rintro e w2 ⟨rfl, hb2⟩
    have hbel2 := bel_trans hbel1 hb2
    clear hb2
    go_wp2_with fail
    go_ret
    exact ⟨rfl, hbel2⟩
  · go_enter Try.func125, Try.ntmps125
    go_wp2_with fail
    refine (IHA.out _).mono ?_
    rintro e w1 ⟨rfl, hb1⟩
    have hbel1 := bel_trans (bel_alloc (Below.refl w.heap.size w) _) hb1
    clear hb1
    go_wp2_with fail
    go_ret
    exact ⟨rfl, hbel1⟩
theorem decides_any : ∀ x : It, AskAt 125 decP x
  | .zero => dec_zero
  | .succ n x => dec_succ n x (decides_any x)
  | .max a b => dec_max a b (decides_any a) (decides_any b)
  | .imax a b => dec_imax a b (decides_any a) (hasParam_any b)
  | .param r => dec_param r
end Go.Proofs.Ytnhkpmgfgiolbaa
