/- The methods of the program's trees as they are called through the interface, and what size answers: how many nodes the tree stands for. -/
import Derived.Test.YtlmhpdmgjfankaaDoorPutP
import Derived.Test.YtlmhpdmgjfankaaDoorIv
import Derived.Test.YtlmhpdmgjfankaaDoorTQ
import Derived.Deep.RegionWith
import Derived.Deep.RegionHeld3
namespace Go.Proofs.YtlmhpdmgjfankaaDoor
open Go.ChangeShapes Go.WideShapes Go.ChangeAt Go.RowKit

def It.tid : It → Nat
  | .zero => 82
  | .succ _ _ => 80
  | .max _ _ => 85
  | .imax _ _ => 86
  | .param _ => 88
def It.pay : It → Value
  | .zero => .agg #[]
  | .succ n x => .agg #[.int .i64 n, x.val]
  | .max a b => .agg #[a.val, b.val]
  | .imax a b => .agg #[a.val, b.val]
  | .param s => .agg #[.string s]
theorem It.val_pay (x : It) : x.val = .iface x.tid x.pay := by cases x <;> rfl
def It.szf : It → Nat
  | .zero => 105
  | .succ _ _ => 103
  | .max _ _ => 107
  | .imax _ _ => 110
  | .param _ => 112
def It.wrf : It → Nat
  | .zero => 106
  | .succ _ _ => 104
  | .max _ _ => 108
  | .imax _ _ => 111
  | .param _ => 113
theorem msz0 (v : Value) (W : World) : (method 249 82 v "loop.example/g00005/impl.size").run Tryd.prog W = .ok (105, v) W := by kernel_rfl
theorem msz1 (v : Value) (W : World) : (method 249 80 v "loop.example/g00005/impl.size").run Tryd.prog W = .ok (103, v) W := by kernel_rfl
theorem msz2 (v : Value) (W : World) : (method 249 85 v "loop.example/g00005/impl.size").run Tryd.prog W = .ok (107, v) W := by kernel_rfl
theorem msz3 (v : Value) (W : World) : (method 249 86 v "loop.example/g00005/impl.size").run Tryd.prog W = .ok (110, v) W := by kernel_rfl
theorem msz4 (v : Value) (W : World) : (method 249 88 v "loop.example/g00005/impl.size").run Tryd.prog W = .ok (112, v) W := by kernel_rfl
theorem esz0 (args : Array Value) (W : World) : (callFunc 105 args).run Tryd.prog W = .ok (.enter 105 args) W := by kernel_rfl
theorem esz1 (args : Array Value) (W : World) : (callFunc 103 args).run Tryd.prog W = .ok (.enter 103 args) W := by kernel_rfl
theorem esz2 (args : Array Value) (W : World) : (callFunc 107 args).run Tryd.prog W = .ok (.enter 107 args) W := by kernel_rfl
theorem esz3 (args : Array Value) (W : World) : (callFunc 110 args).run Tryd.prog W = .ok (.enter 110 args) W := by kernel_rfl
theorem esz4 (args : Array Value) (W : World) : (callFunc 112 args).run Tryd.prog W = .ok (.enter 112 args) W := by kernel_rfl
theorem It.size_m (x : It) (W : World) : (method 249 x.tid x.pay "loop.example/g00005/impl.size").run Tryd.prog W = .ok (x.szf, x.pay) W := by
  cases x
  · exact msz0 _ W
  · exact msz1 _ W
  · exact msz2 _ W
  · exact msz3 _ W
  · exact msz4 _ W
theorem It.size_e (x : It) (args : Array Value) (W : World) : (callFunc x.szf args).run Tryd.prog W = .ok (.enter x.szf args) W := by
  cases x
  · exact esz0 _ W
  · exact esz1 _ W
  · exact esz2 _ W
  · exact esz3 _ W
  · exact esz4 _ W
def SizeAt (x : It) : Prop := ∀ w, Calls Tryd.prog x.szf #[x.pay] w fun e w' => e = .returned (.int .i64 x.cnt) ∧ Below w.heap.size w w'

set_option maxHeartbeats 1000000 in
theorem size_zero : SizeAt .zero := by
  intro w
  simp only [It.szf, It.pay, It.cnt]
  go_enter Tryd.func105, Tryd.ntmps105
  go_wp2_with fail
  go_ret
  exact ⟨rfl, bel_alloc (Below.refl _ _) _⟩
set_option maxHeartbeats 1000000 in
theorem size_param (s : ByteArray) : SizeAt (.param s) := by
  intro w
  simp only [It.szf, It.pay, It.cnt]
  go_enter Tryd.func112, Tryd.ntmps112
  go_wp2_with fail
  go_ret
  exact ⟨rfl, bel_alloc (Below.refl _ _) _⟩
set_option maxHeartbeats 1000000 in
theorem size_succ (n : Nat) (x : It) (hc : (It.succ n x).cnt ≤ 1000000) (ih : SizeAt x) : SizeAt (.succ n x) := by
  intro w
  have hm := It.size_m x
  have he := It.size_e x
  simp only [It.cnt] at hc
  have IH := hide ih
  unfold SizeAt at IH
  simp only [It.szf, It.pay, It.cnt]
  rw [It.val_pay x]
  generalize x.szf = f at *
  generalize x.tid = T at *
  generalize x.pay = v at *
  generalize x.cnt = y at *
  have hwr : IntKind.i64.wrap ((n : Int) + y) = (n : Int) + y := by rw [IntKind.wrap_i64]; omega
  have HE : Hid (Ending.returned (.int .i64 ((n : Int) + y)) = .returned (.int .i64 ((n + y : Nat) : Int))) := by show _ = _; simp
  clear ih
  go_enter Tryd.func103, Tryd.ntmps103
  go_wp2_with fail
  go_region_held3 (fun w' => w'.cell? ⟨w.heap.size, 0, none⟩ = some (.int .i64 n) ∧ w'.cell? ⟨w.heap.size, 1, none⟩ = some (.iface T v))
    (first
      | go_keep
      | (go_split_ands; exact ⟨keep_cell hb1 (by assumption), keep_cell hb1 (by assumption)⟩)
      | fail)
    (first
      | (refine (IH.out _).mono ?_; rintro e w1 ⟨rfl, hb1⟩)
      | fail)
  all_goals
    go_wp2_with fail
    go_ret
    exact ⟨HE.out, (bel_alloc (Below.refl _ _) _).drew.trans (hb1.mono (by simp))⟩
set_option maxHeartbeats 2000000 in
theorem size_max (a b : It) (hc : (It.max a b).cnt ≤ 1000000) (iha : SizeAt a) (ihb : SizeAt b) : SizeAt (.max a b) := by
  intro w
  have hma := It.size_m a
  have hea := It.size_e a
  have hmb := It.size_m b
  have heb := It.size_e b
  simp only [It.cnt] at hc
  have IHA := hide iha
  have IHB := hide ihb
  unfold SizeAt at IHA IHB
  simp only [It.szf, It.pay, It.cnt]
  rw [It.val_pay a, It.val_pay b]
  generalize a.szf = fa at *
  generalize a.tid = Ta at *
  generalize a.pay = va at *
  generalize a.cnt = x at *
  generalize b.szf = fb at *
  generalize b.tid = Tb at *
  generalize b.pay = vb at *
  generalize b.cnt = y at *
  have hwr : IntKind.i64.wrap ((x : Int) + y) = (x : Int) + y := by rw [IntKind.wrap_i64]; omega
  have hwr2 : IntKind.i64.wrap ((x : Int) + y + 1) = (x : Int) + y + 1 := by rw [IntKind.wrap_i64]; omega
  have HE : Hid (Ending.returned (.int .i64 ((x : Int) + y + 1)) = .returned (.int .i64 ((x + y + 1 : Nat) : Int))) := by show _ = _; simp
  clear iha ihb
  go_enter Tryd.func107, Tryd.ntmps107
  go_wp2_with fail
  go_region_held3 (fun w' => w'.cell? ⟨w.heap.size, 0, none⟩ = some (.iface Ta va) ∧ w'.cell? ⟨w.heap.size, 1, none⟩ = some (.iface Tb vb))
    (first
      | go_keep
      | (go_split_ands; exact ⟨keep_cell hb2 (by assumption), keep_cell hb2 (by assumption)⟩)
      | (go_split_ands; exact ⟨keep_cell hb1 (by assumption), keep_cell hb1 (by assumption)⟩)
      | fail)
    (first
      | (refine (IHA.out _).mono ?_; rintro e w1 ⟨rfl, hb1⟩)
      | (refine (IHB.out _).mono ?_; rintro e w2 ⟨rfl, hb2⟩)
      | fail)
  all_goals
    go_wp2_with fail
    go_ret
    exact ⟨HE.out, bel_trans ((bel_alloc (Below.refl _ _) _).drew.trans (hb1.mono (by simp))) hb2⟩
set_option maxHeartbeats 2000000 in
theorem size_imax (a b : It) (hc : (It.imax a b).cnt ≤ 1000000) (iha : SizeAt a) (ihb : SizeAt b) : SizeAt (.imax a b) := by
  intro w
  have hma := It.size_m a
  have hea := It.size_e a
  have hmb := It.size_m b
  have heb := It.size_e b
  simp only [It.cnt] at hc
  have IHA := hide iha
  have IHB := hide ihb
  unfold SizeAt at IHA IHB
  simp only [It.szf, It.pay, It.cnt]
  rw [It.val_pay a, It.val_pay b]
  generalize a.szf = fa at *
  generalize a.tid = Ta at *
  generalize a.pay = va at *
  generalize a.cnt = x at *
  generalize b.szf = fb at *
  generalize b.tid = Tb at *
  generalize b.pay = vb at *
  generalize b.cnt = y at *
  have hwr : IntKind.i64.wrap ((x : Int) + y) = (x : Int) + y := by rw [IntKind.wrap_i64]; omega
  have hwr2 : IntKind.i64.wrap ((x : Int) + y + 1) = (x : Int) + y + 1 := by rw [IntKind.wrap_i64]; omega
  have HE : Hid (Ending.returned (.int .i64 ((x : Int) + y + 1)) = .returned (.int .i64 ((x + y + 1 : Nat) : Int))) := by show _ = _; simp
  clear iha ihb
  go_enter Tryd.func110, Tryd.ntmps110
  go_wp2_with fail
  go_region_held3 (fun w' => w'.cell? ⟨w.heap.size, 0, none⟩ = some (.iface Ta va) ∧ w'.cell? ⟨w.heap.size, 1, none⟩ = some (.iface Tb vb))
    (first
      | go_keep
      | (go_split_ands; exact ⟨keep_cell hb2 (by assumption), keep_cell hb2 (by assumption)⟩)
      | (go_split_ands; exact ⟨keep_cell hb1 (by assumption), keep_cell hb1 (by assumption)⟩)
      | fail)
    (first
      | (refine (IHA.out _).mono ?_; rintro e w1 ⟨rfl, hb1⟩)
      | (refine (IHB.out _).mono ?_; rintro e w2 ⟨rfl, hb2⟩)
      | fail)
  all_goals
    go_wp2_with fail
    go_ret
    exact ⟨HE.out, bel_trans ((bel_alloc (Below.refl _ _) _).drew.trans (hb1.mono (by simp))) hb2⟩
theorem size_all : ∀ x : It, x.cnt ≤ 1000000 → SizeAt x
  | .zero, _ => size_zero
  | .succ n x, h => size_succ n x h (size_all x (by simp only [It.cnt] at h; omega))
  | .max a b, h => size_max a b h (size_all a (by simp only [It.cnt] at h; omega)) (size_all b (by simp only [It.cnt] at h; omega))
  | .imax a b, h => size_imax a b h (size_all a (by simp only [It.cnt] at h; omega)) (size_all b (by simp only [It.cnt] at h; omega))
  | .param s, _ => size_param s
end Go.Proofs.YtlmhpdmgjfankaaDoor
