/- The functions that Uses hands to fold. -/
import Derived.Test.YtlhhdhmhncjilaaGreatStH
import Derived.Test.YtlhhdhmhncjilaaGreatUsA
namespace Go.Proofs.YtlhhdhmhncjilaaGreat
open Go.ChangeShapes Go.WideShapes Go.ChangeAt Go.RowKit

/-- What is known of a node without its kids. -/
def knowB (k nn lo u v : Int) : Bool := if k = 1 ∧ nn - u = v then true else decide (lo - u ≤ v)
def knowN (k nn u v : Int) : Int := if k = 1 ∧ nn - u = v then 1 else 0
set_option maxRecDepth 20000 in
set_option maxHeartbeats 4000000 in
theorem known_any (A vb : Nat) (k nn lo u v : Int) (w : World) (a0 : w.cell? ⟨A, 0, none⟩ = some (.int .i64 k)) (a1 : w.cell? ⟨A, 1, none⟩ = some (.int .i64 nn)) (a10 : w.cell? ⟨A, 10, none⟩ = some (.int .i64 lo)) (av : w.cell? ⟨vb, 0, none⟩ = some (.int .i64 v)) (hu : 0 ≤ u ∧ u ≤ 100000) (hn : k = 1 → 0 ≤ nn ∧ nn ≤ 20000) (hlo : 0 ≤ lo ∧ lo ≤ 20001) :
    Calls Tryz.prog 21 #[.pointer (some ⟨A, 0, none⟩), .int .i64 u, .pointer (some ⟨vb, 0, none⟩)] w fun e w' => e = .returned (.tuple #[.int .i64 (knowN k nn u v), .bool (knowB k nn lo u v)]) ∧ Below w.heap.size w w' := by
  have hAl := lt_cell a0
  have hvl := lt_cell av
  have p0 : ∀ p : Bel w.heap.size w, p.w'.cell? ⟨A, 0, none⟩ = some (.int .i64 k) := fun p => p.cell hAl a0
  have p1 : ∀ p : Bel w.heap.size w, p.w'.cell? ⟨A, 1, none⟩ = some (.int .i64 nn) := fun p => p.cell hAl a1
  have pv : ∀ p : Bel w.heap.size w, p.w'.cell? ⟨vb, 0, none⟩ = some (.int .i64 v) := fun p => p.cell hvl av
  haveI := bel_ne w.heap.size w
  have hwl : IntKind.i64.wrap (lo - u) = lo - u := by rw [IntKind.wrap_i64]; omega
  by_cases h1 : k = 1
  · have q1 : (k == 1) = true := by simp [h1]
    obtain ⟨n0, n1⟩ := hn h1
    have hwn : IntKind.i64.wrap (nn - u) = nn - u := by rw [IntKind.wrap_i64]; omega
    by_cases h2 : nn - u = v
    · have q2 : (nn - u == v) = true := by simp [h2]
      have HE : Hid (knowN k nn u v = 1 ∧ knowB k nn lo u v = true) := by unfold knowN knowB; rw [if_pos ⟨h1, h2⟩, if_pos ⟨h1, h2⟩]; exact ⟨rfl, rfl⟩
      rw [HE.out.1, HE.out.2]
      clear h1 h2 hn
      go_enter Tryz.func21, Tryz.ntmps21
      go_wp2_with fail
      refine wp_region_belH w.heap.size (by kernel_rfl) (by kernel_rfl) (fun Q' hQ' => ?_)
      repeat (refine QW.step (fun K hK => ?_); go_simp; first | (refine hK _ ?_; clear hK K) | fail)
      refine QW.nil ?_
      refine hQ'.out _ (fun p => ?_)
      clear hQ'
      go_wp2_with fail
      refine bodyPost_ret (v := .tuple #[.int .i64 1, .bool true]) (by simp [results, Tryz.results21, go_sem]) rfl ⟨rfl, p.h⟩
    · have q2 : (nn - u == v) = false := by simp [h2]
      have HE : Hid (knowN k nn u v = 0 ∧ knowB k nn lo u v = decide (lo - u ≤ v)) := by unfold knowN knowB; rw [if_neg (fun h => h2 h.2), if_neg (fun h => h2 h.2)]; exact ⟨rfl, rfl⟩
      rw [HE.out.1, HE.out.2]
      clear h1 h2 hn
      go_enter Tryz.func21, Tryz.ntmps21
      go_wp2_with fail
      refine wp_region_belH w.heap.size (by kernel_rfl) (by kernel_rfl) (fun Q' hQ' => ?_)
      repeat (refine QW.step (fun K hK => ?_); go_simp; first | (refine hK _ ?_; clear hK K) | fail)
      refine QW.nil ?_
      refine hQ'.out _ (fun p => ?_)
      clear hQ'
      have r10 : ∀ r : Bel w.heap.size p.w', r.w'.cell? ⟨A, 10, none⟩ = some (.int .i64 lo) := fun r => r.cell hAl (p.cell hAl a10)
      clear p0 p1 pv
      have rv : ∀ r : Bel w.heap.size p.w', r.w'.cell? ⟨vb, 0, none⟩ = some (.int .i64 v) := fun r => r.cell hvl (p.cell hvl av)
      have hA2 : A < p.w'.heap.size := Nat.lt_of_lt_of_le hAl p.h.size
      have hv2 : vb < p.w'.heap.size := Nat.lt_of_lt_of_le hvl p.h.size
      haveI := bel_ne w.heap.size p.w'
      go_wp2_with fail
      refine wp_region_belH w.heap.size (by kernel_rfl) (by kernel_rfl) (fun Q' hQ' => ?_)
      repeat (refine QW.step (fun K hK => ?_); go_simp; first | (refine hK _ ?_; clear hK K) | fail)
      refine QW.nil ?_
      refine hQ'.out _ (fun r => ?_)
      clear hQ'
      go_wp2_with fail
      refine bodyPost_ret (v := .tuple #[.int .i64 0, .bool (decide (lo - u ≤ v))]) (by simp [results, Tryz.results21, go_sem]) rfl ⟨rfl, p.h.trans r.h⟩
  · have q1 : (k == 1) = false := by simp [h1]
    have HE : Hid (knowN k nn u v = 0 ∧ knowB k nn lo u v = decide (lo - u ≤ v)) := by unfold knowN knowB; rw [if_neg (fun h => h1 h.1), if_neg (fun h => h1 h.1)]; exact ⟨rfl, rfl⟩
    rw [HE.out.1, HE.out.2]
    clear h1 hn
    go_enter Tryz.func21, Tryz.ntmps21
    go_wp2_with fail
    refine wp_region_belH w.heap.size (by kernel_rfl) (by kernel_rfl) (fun Q' hQ' => ?_)
    repeat (refine QW.step (fun K hK => ?_); go_simp; first | (refine hK _ ?_; clear hK K) | fail)
    refine QW.nil ?_
    refine hQ'.out _ (fun p => ?_)
    clear hQ'
    have r10 : ∀ r : Bel w.heap.size p.w', r.w'.cell? ⟨A, 10, none⟩ = some (.int .i64 lo) := fun r => r.cell hAl (p.cell hAl a10)
    clear p0 p1 pv
    have rv : ∀ r : Bel w.heap.size p.w', r.w'.cell? ⟨vb, 0, none⟩ = some (.int .i64 v) := fun r => r.cell hvl (p.cell hvl av)
    have hA2 : A < p.w'.heap.size := Nat.lt_of_lt_of_le hAl p.h.size
    have hv2 : vb < p.w'.heap.size := Nat.lt_of_lt_of_le hvl p.h.size
    haveI := bel_ne w.heap.size p.w'
    go_wp2_with fail
    refine wp_region_belH w.heap.size (by kernel_rfl) (by kernel_rfl) (fun Q' hQ' => ?_)
    repeat (refine QW.step (fun K hK => ?_); go_simp; first | (refine hK _ ?_; clear hK K) | fail)
    refine QW.nil ?_
    refine hQ'.out _ (fun r => ?_)
    clear hQ'
    go_wp2_with fail
    refine bodyPost_ret (v := .tuple #[.int .i64 0, .bool (decide (lo - u ≤ v))]) (by simp [results, Tryz.results21, go_sem]) rfl ⟨rfl, p.h.trans r.h⟩

set_option maxRecDepth 20000 in
set_option maxHeartbeats 4000000 in
theorem joinU_any (A : Nat) (x0 x1 x2 : Int) (w : World) (h0 : 0 ≤ x0 ∧ x0 ≤ 100000) (h1 : 0 ≤ x1 ∧ x1 ≤ 100000) (h2 : 0 ≤ x2 ∧ x2 ≤ 100000) :
    Calls Tryz.prog 22 #[.pointer (some ⟨A, 0, none⟩), .agg #[.int .i64 x0, .int .i64 x1, .int .i64 x2]] w fun e w' => e = .returned (.int .i64 (x0 + x1 + x2)) ∧ Below w.heap.size w w' := by
  have hw1 : IntKind.i64.wrap (x0 + x1) = x0 + x1 := by rw [IntKind.wrap_i64]; omega
  have hw2 : IntKind.i64.wrap (x0 + x1 + x2) = x0 + x1 + x2 := by rw [IntKind.wrap_i64]; omega
  go_enter Tryz.func22, Tryz.ntmps22
  go_wp2_with fail
  go_ret
  exact ⟨rfl, bel_alloc (Below.refl _ _) _⟩
end Go.Proofs.YtlhhdhmhncjilaaGreat
