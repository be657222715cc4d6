/- What the specification's l1Any answers: some level, in new memory. -/
import Derived.Test.YtjkkojefpecbfaaGreatAnyC
import Derived.Deep.CutRange
import Derived.Test.YtjkkojefpecbfaaGreatTree
import Derived.Deep.QuietTactic
import Derived.BigQuiet
namespace Go.Proofs.YtjkkojefpecbfaaGreat
open Go.ChangeShapes Go.WideShapes Go.ChangeAt Go.RowKit

def texts7 : List ByteArray := [⟨#[]⟩, ⟨#[97, 46, 98]⟩, ⟨#[109, 97, 120]⟩, ⟨#[51]⟩, ⟨#[120, 39]⟩, ⟨#[95]⟩, ⟨#[105, 109, 97, 120]⟩]
theorem texts7_cells (w : World) : ∀ j (hj : j < texts7.length), (w.alloc (.cells #[.string ⟨#[]⟩, .string ⟨#[97, 46, 98]⟩, .string ⟨#[109, 97, 120]⟩, .string ⟨#[51]⟩, .string ⟨#[120, 39]⟩, .string ⟨#[95]⟩, .string ⟨#[105, 109, 97, 120]⟩] 9)).cell? ⟨w.heap.size, j, none⟩ = some (.string texts7[j]) := by
  intro j hj
  rw [cell_of_row _ _ _ _ _ _ (heap_alloc_new w _)]
  match j, hj with
  | 0, _ => rfl
  | 1, _ => rfl
  | 2, _ => rfl
  | 3, _ => rfl
  | 4, _ => rfl
  | 5, _ => rfl
  | 6, _ => rfl
def letters7 : List ByteArray := [⟨#[98]⟩, ⟨#[99]⟩, ⟨#[100]⟩, ⟨#[101]⟩, ⟨#[102]⟩, ⟨#[103]⟩, ⟨#[104]⟩]
theorem letters7_cells (w : World) : ∀ j (hj : j < letters7.length), (w.alloc (.cells #[.string ⟨#[98]⟩, .string ⟨#[99]⟩, .string ⟨#[100]⟩, .string ⟨#[101]⟩, .string ⟨#[102]⟩, .string ⟨#[103]⟩, .string ⟨#[104]⟩] 9)).cell? ⟨w.heap.size, j, none⟩ = some (.string letters7[j]) := by
  intro j hj
  rw [cell_of_row _ _ _ _ _ _ (heap_alloc_new w _)]
  match j, hj with
  | 0, _ => rfl
  | 1, _ => rfl
  | 2, _ => rfl
  | 3, _ => rfl
  | 4, _ => rfl
  | 5, _ => rfl
  | 6, _ => rfl
/-- A tree of so many parameters. -/
def lett : Nat → Tr
  | 0 => .leaf 5 ⟨#[97]⟩
  | j + 1 => .two 3 ⟨#[]⟩ (lett j) (.leaf 5 (letters7.getD j ⟨#[]⟩))
/-- A level changed in one node. -/
def anyM (v : Nat) (ns : List Nd) (σ : Pl) : List Nd :=
  if v < 236 then ns
  else if v < 240 then ns.set (σ.v % ns.length) ⟨((σ.n.v % 7 : Nat) : Int), (ns.getD (σ.v % ns.length) ⟨0, ⟨#[]⟩, []⟩).s, (ns.getD (σ.v % ns.length) ⟨0, ⟨#[]⟩, []⟩).kids⟩
  else if v < 244 then ns.set (σ.v % ns.length) ⟨(ns.getD (σ.v % ns.length) ⟨0, ⟨#[]⟩, []⟩).k, texts7.getD (σ.n.v % 7) ⟨#[]⟩, (ns.getD (σ.v % ns.length) ⟨0, ⟨#[]⟩, []⟩).kids⟩
  else if v < 248 then ns.set (σ.v % ns.length) ⟨(ns.getD (σ.v % ns.length) ⟨0, ⟨#[]⟩, []⟩).k, (ns.getD (σ.v % ns.length) ⟨0, ⟨#[]⟩, []⟩).s, (ns.getD (σ.v % ns.length) ⟨0, ⟨#[]⟩, []⟩).kids ++ [((σ.v % ns.length : Nat) : Int) - 1]⟩
  else if v < 252 then (succs (62 + v % 3) (.leaf 1 ⟨#[]⟩)).flat 0
  else (lett (3 + v % 4)).flat 0
/-- The level that is drawn. -/
def anyN (ρ : Pl) : List Nd := anyM ρ.v ((drw 5 0 ρ.n).1.flat 0) (drw 5 0 ρ.n).2
/-- The place behind the level that is drawn. -/
def anyQ (v : Nat) (σ : Pl) : Pl := if v < 236 then σ else if v < 244 then σ.n.n else σ.n
def anyP (ρ : Pl) : Pl := anyQ ρ.v (drw 5 0 ρ.n).2
set_option maxRecDepth 20000 in
set_option maxHeartbeats 2000000 in
theorem l1Any_any {ρ : Pl} (R base : Nat) (w : World) (h : RdAt ρ base w R) :
    Calls Tryz.prog 177 #[.pointer (some ⟨R, 0, none⟩)] w (AnyOut (anyN ρ) (anyP ρ) base R w) := by
  have hl := h.lt
  obtain ⟨W, hW⟩ : ∃ W, W = w.alloc (.cells #[.slice none 0 0] 111) := ⟨_, rfl⟩
  have HB := hide (show Below w.heap.size w W by rw [hW]; exact bel_alloc (Below.refl _ _) _)
  have HR0 := hide (h.keep HB.out)
  have hsW : w.heap.size < W.heap.size := by rw [hW]; simp
  have x0 : W.cell? ⟨w.heap.size, 0, none⟩ = some (.slice none 0 0) := by rw [hW]; simp [go_sem]
  have xf : W.frozen? ⟨w.heap.size, 0, none⟩ = false := by rw [hW]; simp [go_sem]
  have HXB := hide (show W.heap[w.heap.size]? = some (.cells #[.slice none 0 0] 111 (0, 0)) by rw [hW]; exact heap_alloc_new w _)
  clear h
  go_enter Tryz.func177, Tryz.ntmps177
  go_wp2_with fail
  rw [← hW]
  clear hW
  refine (next_any R base _ HR0.out).mono ?_
  rintro e w1 ⟨v, rfl, hv0, hv1, hr1, hg1, hve⟩
  have HVE := hide hve
  clear hve
  have HR1 := hide hr1
  have HG1 := hide hg1
  have hs1 := hg1.size
  clear hr1 hg1
  go_wp2_with fail
  refine ((l1Draw_any 5) ρ.n 0 R base _ (by omega) (by omega) HR1.out).mono ?_
  rintro e w2 ⟨g2, t2, rfl, ht2, hok2, hc2, hr2, hg2, hte2⟩
  have HNN : Hid (anyN ρ = anyM ρ.v (t2.flat 0) (drw 5 0 ρ.n).2) := by show _ = _; unfold anyN; rw [← hte2]
  have HPP : Hid (anyP ρ = anyQ ρ.v (drw 5 0 ρ.n).2) := rfl
  clear hte2
  have HR2 := hide hr2
  have HG2 := hide hg2
  have HT2 := hide ht2
  have hs2 := hg2.size
  have hc2 : t2.cnt ≤ 63 := by have : 2 ^ (5 + 1) = 64 := rfl; omega
  clear hr2 hg2 ht2
  go_wp2_with fail
  refine (l1LevelA_any t2 g2 _ HT2.out (by omega)).mono ?_
  rintro e w3 ⟨g3, cap3, rfl, hn3A, hb3⟩
  have hn3 := hn3A.weak
  have HA3 := hide hn3A
  clear hn3A
  have HXB := hide ((hb3.block w.heap.size (by omega)).trans ((HG2.out.block w.heap.size (by omega) (by simp; omega)).trans ((HG1.out.block w.heap.size (by omega) (by simp; omega)).trans HXB.out)))
  have hs3 := hb3.size
  have hlt3 := hn3.lt
  have HN3 := hide hn3
  have HR3 := hide (HR2.out.keep hb3)
  have HG3 := hide ((((grown_of HB.out).but (some R)).trans (HG1.out.trans HG2.out)).trans ((grown_of hb3).but (some R)))
  have HFL := hide (show (t2.flat 0).length ≤ 63 by rw [Tr.flat_len]; exact hc2)
  clear hn3 hb3 x0 xf
  have HZS := hide (Tr.flat_small (Tr.ok_small hok2) 0)
  clear HB HR0 HG1 HR1 HG2 HR2 HT2 hc2 hok2
  obtain ⟨W4, hW4⟩ : ∃ W4, W4 = w3.alloc (.cells #[.slice (some ⟨g3, 0, none⟩) (t2.flat 0).length cap3] 111) := ⟨_, rfl⟩
  have hb4 : Below w3.heap.size w3 W4 := by rw [hW4]; exact bel_alloc (Below.refl _ _) _
  have HS := hide (show AnySt (drw 5 0 ρ.n).2 base R w.heap.size w3.heap.size g3 cap3 w2.heap.size (t2.flat 0) w W4 from
    ⟨HR3.out.keep hb4, HG3.out.trans ((grown_of hb4).but _), HN3.out.keep hb4, (hb4.block _ (by omega)).trans HXB.out, by rw [hW4]; exact heap_alloc_new w3 _, by omega, by omega, by omega, by omega, Nat.le_refl _⟩)
  have x0 := HS.out.x0
  have xf := HS.out.xf
  have l0 := HS.out.l0
  have lf := HS.out.lf
  have HA4 := hide (HA3.out.keep hb4)
  clear hb4 HXB HN3 HR3 HG3 HA3
  have hl4 := HS.out.lt
  go_upto_region 3 with fail
  rw [← hW4]
  clear hW4
  have hns : (t2.flat 0).length ≤ 63 := HFL.out
  have hnp : 0 < (t2.flat 0).length := by rw [Tr.flat_len]; exact t2.cnt_pos
  have HKB := hide (t2.flat_kids 0)
  generalize t2.flat 0 = ns at HS l0 hns hnp HKB HA4 HZS HNN ⊢
  generalize (drw 5 0 ρ.n).2 = σ at HS HNN HPP
  by_cases hk : v < 236
  · have d1 : decide (v < 236) = true := by simp [hk]
    go_wp2_with fail
    refine bodyPost_ret (v := .agg #[.slice (some ⟨g3, 0, none⟩) ns.length cap3]) (by simp [results, go_sem, x0]) rfl ?_
    exact any_out HS.out.rd HS.out.gr HS.out.nd (by omega) HZS.out HS.out.xb (by omega) (by omega) (Nat.le_refl _) (by omega) (by omega) (by rw [HNN.out]; unfold anyM; rw [if_pos (by have := HVE.out; omega)]) (by rw [HPP.out]; unfold anyQ; rw [if_pos (by have := HVE.out; omega)])
  have d1 : decide (v < 236) = false := by simp [hk]
  have hne : ¬ ns = [] := by intro e; subst e; simp at hnp
  have hne2 : ¬ (ns.length : Int) = 0 := by omega
  go_upto_region 5 with fail
  go_cut [5] from 18 to 23 (fun u wx => ∃ r : Nat, u = .int .i64 (r : Int) ∧ r < ns.length ∧ Hid (AnySt σ.n base R w.heap.size w3.heap.size g3 cap3 w2.heap.size ns w wx) ∧ Hid (r = σ.v % ns.length) ∧ Hid (NdRowA w2.heap.size (fun _ => True) wx g3 cap3 ns))
  case first =>
    go_region_with (first
      | (go_at_call 80; refine (next_any R base _ (HS.out.keep (by repeat (first | exact Below.refl _ _ | apply Below.drew))).rd).mono ?_; rintro e w5 ⟨v5, rfl, hv50, hv51, hr5, hg5, hve5⟩; have HS5 := hide (AnySt.read (HS.out.keep (by repeat (first | exact Below.refl _ _ | apply Below.drew))) hr5 hg5); have HA5 := hide (NdRowA.rd (HA4.out.keep (by repeat (first | exact Below.refl _ _ | apply Below.drew))) (HS.out.keep (by repeat (first | exact Below.refl _ _ | apply Below.drew))).rd hg5); have l5 := HS5.out.l0; obtain ⟨r5, hr5', hrl5⟩ := tmod_nat hv50 hnp; have HRE5 : Hid (r5 = σ.v % ns.length) := (by { show _ = _; have h1 := hr5'; rw [hve5, tmod_is] at h1; omega }); clear hve5; have hwr : IntKind.i64.wrap (r5 : Int) = (r5 : Int) := by { rw [IntKind.wrap_i64]; omega })
      | fail)
    all_goals (go_wp2_with fail; go_meet; exact ⟨r5, rfl, hrl5, HS5, HRE5, HA5⟩)
  case rest =>
    obtain ⟨r, rfl, hrn, HS5, HRE, HA5⟩ := hcut
    clear HS x0 xf l0 lf HA4
    have hkl : ns[r].kids.length ≤ 2 := HKB.out _ (List.getElem_mem hrn)
    have hsl : ns[r].s.size ≤ 1000 := HZS.out _ (List.getElem_mem hrn)
    clear HKB
    have x0 := HS5.out.x0
    have xf := HS5.out.xf
    have l0 := HS5.out.l0
    have hl5 := HS5.out.lt
    obtain ⟨kv, c0, c1, c2, hkr⟩ := HS5.out.nd.cells r hrn
    have HNE : Hid (ns[r] = ns.getD (σ.v % ns.length) ⟨0, ⟨#[]⟩, []⟩) := by show _ = _; rw [← HRE.out]; simp [hrn]
    generalize hnd : ns[r] = nd at c0 c1 hkr hkl hsl HNE
    clear hnd
    obtain ⟨ka, kc, rfl, -, -, -⟩ := hkr.ints
    have HKR := hide hkr
    clear hkr
    have hrn' : (r : Int) < (ns.length : Int) := by omega
    obtain ⟨W6, hW6⟩ : ∃ W6, W6 = wc.alloc (.cells #[.int .i64 nd.k, .string nd.s, .slice ka nd.kids.length kc] 174) := ⟨_, rfl⟩
    have hb6 : Below wc.heap.size wc W6 := by rw [hW6]; exact bel_alloc (Below.refl _ _) _
    have HS6 := hide (HS5.out.keep hb6)
    have HD6 := hide (show AnyNd w2.heap.size wc.heap.size W6 nd ka kc from ⟨by rw [hW6]; exact heap_alloc_new wc _, HKR.out.keep hb6⟩)
    have hnR : wc.heap.size ≠ R := by omega
    have HA6 := hide (HA5.out.keep hb6)
    have HC6 := hide (keep_cell hb6 c2)
    go_upto_region 7 with fail
    rw [← hW6]
    clear hW6 hb6 HS5 HA5 HKR x0 xf l0 c0 c1 c2
    have x0 := HS6.out.x0
    have xf := HS6.out.xf
    have l0 := HS6.out.l0
    obtain ⟨n0, n1, n2, f0, f1, f2⟩ := HD6.out.cells
    have hs6 := lt_cell n0
    obtain ⟨nb, hnb⟩ : ∃ nb, nb = wc.heap.size := ⟨_, rfl⟩
    rw [← hnb] at HD6 n0 n1 n2 f0 f1 f2 hnR hs6 hl5 ⊢
    clear hnb
    go_upto_if 30 with fail
    go_cut [7] from 29 to 75 (fun u wx => ∃ (nd' : Nd) (ka' : Option Addr) (kc' : Nat) (τ : Pl), Hid (AnyStX τ base R w.heap.size w3.heap.size g3 cap3 w2.heap.size r ns w wx) ∧ Hid (AnyNd w2.heap.size nb wx nd' ka' kc') ∧ Hid (nd'.s.size ≤ 1000) ∧ Hid (ns.set r nd' = anyN ρ) ∧ Hid (τ = anyP ρ))
    case first =>
      by_cases hk1 : v < 240
      · have e1 : decide (v < 240) = true := by simp [hk1]
        go_wp2_with fail
        refine (next_any R base _ HS6.out.rd).mono ?_
        rintro e w7 ⟨v7, rfl, h70, h71, hr7, hg7, hve7⟩
        have HS7 := hide (HS6.out.read hr7 hg7)
        have HD7 := hide (HD6.out.read HS6.out.rd hg7 hnR)
        obtain ⟨m, hm, hml⟩ := tmod_nat (m := 7) h70 (by omega)
        have hm' : v7.tmod 7 = (m : Int) := hm
        have HME : Hid (m = σ.n.v % 7) := by show _ = _; have h1 := hm; rw [hve7] at h1; have h2 := tmod_is (n := σ.n.v) (m := 7); omega
        clear hve7
        have hwm : IntKind.i64.wrap (m : Int) = (m : Int) := by rw [IntKind.wrap_i64]; omega
        obtain ⟨n0', n1', n2', f0', f1', f2'⟩ := HD7.out.cells
        clear hr7 hg7
        go_wp2_with fail
        go_meet
        exact ⟨⟨m, nd.s, nd.kids⟩, ka, kc, _, (HS7.out.far hl5 HD7.out.1 _).x r, HD7.out.setK m, hsl, by show _ = _; rw [HNN.out]; unfold anyM; rw [if_neg (by have := HVE.out; omega), if_pos (by have := HVE.out; omega), ← HRE.out, HME.out, HNE.out, ← HRE.out], by show _ = _; rw [HPP.out]; unfold anyQ; rw [if_neg (by have := HVE.out; omega), if_pos (by have := HVE.out; omega)]⟩
      have e1 : decide (v < 240) = false := by simp [hk1]
      by_cases hk2 : v < 244
      · have e2 : decide (v < 244) = true := by simp [hk2]
        go_wp2_with fail
        have hb7 := bel_alloc (Below.refl W6.heap.size W6) (.cells #[.string ⟨#[]⟩, .string ⟨#[97, 46, 98]⟩, .string ⟨#[109, 97, 120]⟩, .string ⟨#[51]⟩, .string ⟨#[120, 39]⟩, .string ⟨#[95]⟩, .string ⟨#[105, 109, 97, 120]⟩] 9)
        refine (pick_any R base W6.heap.size texts7 _ (HS6.out.keep hb7).rd (by decide) (by decide) (by omega) (texts7_cells W6)).mono ?_
        rintro e w7 ⟨s7, rfl, hs7m, hr7, hg7, hse7⟩
        have HSE : Hid (s7 = texts7.getD (σ.n.v % 7) ⟨#[]⟩) := hse7
        clear hse7
        have hs7 : s7.size ≤ 1000 := (show ∀ s ∈ texts7, s.size ≤ 1000 by decide) s7 hs7m
        clear hs7m
        have HS7 := hide ((HS6.out.keep hb7).read hr7 hg7)
        have HD7 := hide ((HD6.out.keep hb7).read (HS6.out.keep hb7).rd hg7 hnR)
        obtain ⟨n0', n1', n2', f0', f1', f2'⟩ := HD7.out.cells
        clear hr7 hg7 hb7
        go_wp2_with fail
        go_meet
        exact ⟨⟨nd.k, s7, nd.kids⟩, ka, kc, _, (HS7.out.far hl5 HD7.out.1 _).x r, HD7.out.setS s7, hs7, by show _ = _; rw [HNN.out]; unfold anyM; rw [if_neg (by have := HVE.out; omega), if_neg (by have := HVE.out; omega), if_pos (by have := HVE.out; omega), ← HRE.out, HSE.out, HNE.out, ← HRE.out], by show _ = _; rw [HPP.out]; unfold anyQ; rw [if_neg (by have := HVE.out; omega), if_pos (by have := HVE.out; omega)]⟩
      have e2 : decide (v < 244) = false := by simp [hk2]
      by_cases hk3 : v < 248
      · have e3 : decide (v < 248) = true := by simp [hk3]
        obtain ⟨i3, hi3, hz3, hs3', hb3'⟩ := info_parts Tryz.info3
        have hw1 : IntKind.i64.wrap ((r : Int) - 1) = (r : Int) - 1 := by rw [IntKind.wrap_i64]; omega
        have hlen : (nd.kids ++ [(r : Int) - 1]).length = nd.kids.length + 1 := by simp
        have HLEN := hide hlen
        clear hlen
        go_wp2_with (first
          | (at_builtin
             refine wpList_append_lies _ rfl _ _ 65 rfl w2.heap.size 3 i3 (.int .i64 0) 1 8 Tryz.underlying65 hi3 hz3 hs3' hb3' rfl (by omega) (.slice ka nd.kids.length kc) nd.kids.length (nd.kids.map (Value.int .i64)) rfl ((show W6.ownsRow _ _ _ _ _ _ from HD6.out.2).alloc _) ⟨W6.heap.size, 0, none⟩ 1 1 [.int .i64 ((r : Int) - 1)] rfl rfl (cell_one_new _ _ _) (by intro u hu; simp at hu; subst hu; rfl) (by omega) (by unfold maxLen; omega) (by omega) (by simp; omega) (W6.heap.size + 1) (by simp) ?_
             intro g4 cap4 w4 hown4 hgrow4 hat4 hlt4
             have hbA := bel_alloc (Below.refl W6.heap.size W6) (.cells #[.int .i64 ((r : Int) - 1)] 3)
             have HX4 := hide ((HS6.out.keep hbA).kid (HA6.out.keep hbA) hrn (keep_cell hbA HC6.out) (HD6.out.keep hbA).2 hgrow4)
             have hnb4 := (HD6.out.keep hbA).grownK (by simp; omega) hgrow4
             have n2' : w4.cell? ⟨nb, 2, none⟩ = some (.slice ka nd.kids.length kc) := by { rw [cell_of_row _ _ _ _ _ _ hnb4]; rfl }
             have f2' : w4.frozen? ⟨nb, 2, none⟩ = false := frozen_of_row hnb4
             have HK4 := hide (show KidRow w2.heap.size w4 (.slice (some ⟨g4, 0, none⟩) (nd.kids ++ [(r : Int) - 1]).length cap4) (nd.kids ++ [(r : Int) - 1]) by { unfold KidRow; rw [List.length_append, List.map_append]; exact hown4 })
             have HNB4 := hide hnb4
             clear hown4 hgrow4 hat4 hnb4 hbA)
          | fail)
        have hS := AnyNd.setKids HNB4.out HK4.out
        rw [HLEN.out] at hS
        go_meet
        exact ⟨⟨nd.k, nd.s, nd.kids ++ [(r : Int) - 1]⟩, some ⟨g4, 0, none⟩, cap4, _, HX4.out.far hl5 HNB4.out _, hS, hsl, by show _ = _; rw [HNN.out]; unfold anyM; rw [if_neg (by have := HVE.out; omega), if_neg (by have := HVE.out; omega), if_neg (by have := HVE.out; omega), if_pos (by have := HVE.out; omega), ← HRE.out, HNE.out, ← HRE.out], by show _ = _; rw [HPP.out]; unfold anyQ; rw [if_neg (by have := HVE.out; omega), if_neg (by have := HVE.out; omega)]⟩
      have e3 : decide (v < 248) = false := by simp [hk3]
      by_cases hk4 : v < 252
      · have e4 : decide (v < 252) = true := by simp [hk4]
        obtain ⟨m, hm, hml⟩ := tmod_nat (m := 3) hv0 (by omega)
        have hm' : v.tmod 3 = (m : Int) := hm
        have HME : Hid (m = ρ.v % 3) := by show _ = _; have h1 := hm; rw [HVE.out] at h1; have h2 := tmod_is (n := ρ.v) (m := 3); omega
        have HFE : Hid ((succs (62 + m) (.leaf 1 ⟨#[]⟩)).flat 0 = anyN ρ) := by show _ = _; rw [HNN.out]; unfold anyM; rw [if_neg (by have := HVE.out; omega), if_neg (by have := HVE.out; omega), if_neg (by have := HVE.out; omega), if_neg (by have := HVE.out; omega), if_pos (by have := HVE.out; omega), HME.out]
        have hwm : IntKind.i64.wrap (m : Int) = (m : Int) := by rw [IntKind.wrap_i64]; omega
        have hwn : IntKind.i64.wrap (62 + (m : Int)) = ((62 + m : Nat) : Int) := by rw [IntKind.wrap_i64]; omega
        go_wp2_with fail
        refine (l1Zero_any _).mono ?_
        rintro e w7 ⟨rfl, ht7, hb7⟩
        have HS7 := hide (HS6.out.keep hb7)
        have HT7 := hide ht7
        clear ht7 hb7
        go_wp2_with fail
        refine (l1Many_any _ _ (62 + m) _ HT7.out (by omega)).mono ?_
        rintro e w8 ⟨g8, rfl, ht8, hb8⟩
        have HS8 := hide (HS7.out.keep hb8)
        have HT8 := hide ht8
        clear ht8 hb8
        have hcn : (succs (62 + m) (.leaf 1 ⟨#[]⟩)).cnt ≤ 65 := by rw [succs_cnt]; simp only [Tr.cnt]; omega
        go_wp2_with fail
        refine (l1Level_any _ g8 _ HT8.out (by omega)).mono ?_
        rintro e w9 ⟨g9, cap9, rfl, hn9, hb9⟩
        have hfl := Tr.flat_len (succs (62 + m) (.leaf 1 ⟨#[]⟩)) 0
        have HS9 := hide (HS8.out.keep hb9)
        have HN9 := hide hn9
        have hg9 := hn9.lt
        have hl8 := HS8.out.lt
        clear hn9 hb9
        have x0 := HS9.out.x0
        have xf := HS9.out.xf
        have HZ9 := hide (Tr.flat_small (succs_small (t := .leaf 1 ⟨#[]⟩) (by show (0 : Nat) ≤ 1000; omega) (62 + m)) 0)
        generalize (succs (62 + m) (.leaf 1 ⟨#[]⟩)).flat 0 = fl at *
        have hfl' : fl.length ≤ 1000 := by omega
        clear hfl
        go_wp2_with fail
        refine bodyPost_ret (v := .agg #[.slice (some ⟨g9, 0, none⟩) fl.length cap9]) (by simp [results, go_sem, x0]) rfl ?_
        exact any_out HS9.out.rd HS9.out.gr HN9.out hfl' HZ9.out HS9.out.xb (by omega) (by omega) (Nat.le_refl _) (by omega) (by omega) HFE.out (by rw [HPP.out]; unfold anyQ; rw [if_neg (by have := HVE.out; omega), if_neg (by have := HVE.out; omega)])
      have e4 : decide (v < 252) = false := by simp [hk4]
      obtain ⟨m, hm, hml⟩ := tmod_nat (m := 4) hv0 (by omega)
      have hm' : v.tmod 4 = (m : Int) := hm
      have HME : Hid (m = ρ.v % 4) := by show _ = _; have h1 := hm; rw [HVE.out] at h1; have h2 := tmod_is (n := ρ.v) (m := 4); omega
      have hwm : IntKind.i64.wrap (m : Int) = (m : Int) := by rw [IntKind.wrap_i64]; omega
      obtain ⟨q, hq, hq6, HQE⟩ : ∃ q : Nat, IntKind.i64.wrap (3 + (m : Int)) = (q : Int) ∧ q ≤ 6 ∧ Hid (q = 3 + ρ.v % 4) := ⟨3 + m, by rw [IntKind.wrap_i64]; omega, by omega, by show _ = _; rw [HME.out]⟩
      go_wp2_with fail
      refine (l1Param_any _ _).mono ?_
      rintro e w7 ⟨rfl, ht7, hb7⟩
      have hb7' := bel_alloc (Below.refl w7.heap.size w7) (.cells #[.string ⟨#[98]⟩, .string ⟨#[99]⟩, .string ⟨#[100]⟩, .string ⟨#[101]⟩, .string ⟨#[102]⟩, .string ⟨#[103]⟩, .string ⟨#[104]⟩] 9)
      have HS7 := hide ((HS6.out.keep hb7).keep hb7')
      have HT7 := hide ((ht7.keep hb7').mono hb7'.size)
      have HC7 := hide (letters7_cells w7)
      clear ht7 hb7 hb7'
      go_wp2_with fail
      go_loopw [7, 9] (fun l i wr => ∃ (j g : Nat) (T : Tr), j ≤ q ∧ i = .int .i64 j ∧ l = .pointer (some ⟨g, 0, none⟩) ∧ Hid (TreeAt wr.heap.size wr g T) ∧ Hid (T.cnt ≤ 1 + 2 * j) ∧ Hid (T = lett j) ∧ Hid T.small ∧ Hid (∀ j (hj : j < letters7.length), wr.cell? ⟨w7.heap.size, j, none⟩ = some (.string letters7[j])) ∧ Hid (AnySt σ.n base R w.heap.size w3.heap.size g3 cap3 w2.heap.size ns w wr)) (fun _ i _ => q - (intOf i).toNat)
      case atStart => exact ⟨0, _, _, by omega, rfl, rfl, HT7.out, Nat.le_refl 1, rfl, (by show (1 : Nat) ≤ 1000; omega), HC7.out, HS7.out⟩
      case round =>
        obtain ⟨j, g, T, hj, rfl, rfl, HT, HTC, HTL, HTZ, HC, HSR⟩ := hrel
        by_cases hlt : j < q
        · have d2 : decide ((j : Int) < (q : Int)) = true := by simp; omega
          have hj7 : (j : Int) < 7 := by omega
          have cj := HC.out j (by show j < 7; omega)
          go_wp2_with fail
          refine (l1Param_any _ _).mono ?_
          rintro e w8 ⟨rfl, ht8, hb8⟩
          have HT8 := hide ((HT.out.keep hb8).mono hb8.size)
          have h4a := HT8.out.cell4
          have h4b := ht8.cell4
          have hs2 := T.sz_le
          have HS8 := hide (HSR.out.keep hb8)
          have HC8 := hide (fun q hq => keep_cell hb8 (HC.out q hq))
          have HT9 := hide ht8
          clear ht8 hb8 cj
          go_wp2_with (first
            | (go_at_call 160; refine (make_two 3 ⟨#[]⟩ g T.sz wr.heap.size 1 _ h4a hs2 h4b (by omega)).mono ?_; rintro e w4 ⟨rfl, n, rfl⟩)
            | fail)
          go_roundw
          case rel => exact ⟨j + 1, _, .two 3 ⟨#[]⟩ T (.leaf 5 (letters7[j]'(by show j < 7; omega))), by omega, by go_num, rfl, tree_two HT8.out HT9.out _ _ n, (by show _ ≤ _; simp only [Tr.cnt]; have := HTC.out; omega), (by show _ = _; rw [HTL.out]; show _ = Tr.two 3 ⟨#[]⟩ (lett j) (.leaf 5 (letters7.getD j ⟨#[]⟩)); rw [List.getD_eq_getElem?_getD, List.getElem?_eq_getElem (show j < letters7.length by show j < 7; omega)]; rfl), ⟨by show (0 : Nat) ≤ 1000; omega, HTZ.out, (show ∀ s ∈ letters7, s.size ≤ 1000 by decide) _ (List.getElem_mem _)⟩, (fun q hq => keep_cell (bel_new w8 _ n) (HC8.out q hq)), HS8.out.keep (bel_new w8 _ n)⟩
          case measure => simp [intOf]; omega
        · have d2 : decide ((j : Int) < (q : Int)) = false := by simp; omega
          have hTC : T.cnt ≤ 13 := by have := HTC.out; omega
          have HFE : Hid (T.flat 0 = anyN ρ) := by show _ = _; rw [HNN.out]; unfold anyM; rw [if_neg (by have := HVE.out; omega), if_neg (by have := HVE.out; omega), if_neg (by have := HVE.out; omega), if_neg (by have := HVE.out; omega), if_neg (by have := HVE.out; omega), HTL.out, ← HQE.out, show j = q by omega]
          go_wp2_with fail
          refine (l1Level_any _ g _ HT.out (by omega)).mono ?_
          rintro e w9 ⟨g9, cap9, rfl, hn9, hb9⟩
          have hfl := Tr.flat_len T 0
          have HS9 := hide (HSR.out.keep hb9)
          have HN9 := hide hn9
          have hg9 := hn9.lt
          have hl8 := HSR.out.lt
          clear hn9 hb9
          have x0 := HS9.out.x0
          have xf := HS9.out.xf
          have HZ9 := hide (Tr.flat_small HTZ.out 0)
          generalize T.flat 0 = fl at *
          have hfl' : fl.length ≤ 1000 := by omega
          clear hfl
          go_wp2_with fail
          refine bodyPost_ret (v := .agg #[.slice (some ⟨g9, 0, none⟩) fl.length cap9]) (by simp [results, go_sem, x0]) rfl ?_
          exact any_out HS9.out.rd HS9.out.gr HN9.out hfl' HZ9.out HS9.out.xb (by omega) (by omega) (Nat.le_refl _) (by omega) (by omega) HFE.out (by rw [HPP.out]; unfold anyQ; rw [if_neg (by have := HVE.out; omega), if_neg (by have := HVE.out; omega)])
    case rest =>
      obtain ⟨nd', ka', kc', τ, HSX, HDX, HZX, HFE, HTQ⟩ := hcut
      clear HS6 HD6 HA6 HC6 x0 xf l0 n0 n1 n2 f0 f1 f2 hs6
      have x0 := HSX.out.x0
      have xf : wc.frozen? ⟨w.heap.size, 0, none⟩ = false := frozen_of_row HSX.out.xb
      have l0 := HSX.out.l0
      obtain ⟨n0, n1, n2, f0, f1, f2⟩ := HDX.out.cells
      obtain ⟨kao, kno, kco, c0, c1, c2, hz⟩ := HSX.out.nd.cells hrn
      have z0 := hz (r * 3)
      have z1 := hz (r * 3 + 1)
      have z2 := hz (r * 3 + 2)
      have HSP := hide (HSX.out.put hrn nd' _ HDX.out.2)
      clear hz
      go_upto_region 23 with fail
      generalize ((wc.setCell ⟨g3, r * 3, none⟩ (.int .i64 nd'.k)).setCell ⟨g3, r * 3 + 1, none⟩ (.string nd'.s)).setCell ⟨g3, r * 3 + 2, none⟩ (.slice ka' nd'.kids.length kc') = W9 at HSP ⊢
      have hls : (ns.set r nd').length ≤ 63 := by rw [List.length_set]; exact hns
      have HZ9 := hide (HZS.out.set r HZX.out)
      generalize ns.set r nd' = ns9 at HSP hls HZ9 HFE
      clear x0 xf l0 n0 n1 n2 f0 f1 f2 c0 c1 c2 z0 z1 z2 HSX HDX
      have x0 := HSP.out.x0
      have xf := HSP.out.xf
      have l0 := HSP.out.l0
      go_wp2_with fail
      refine bodyPost_ret (v := .agg #[.slice (some ⟨g3, 0, none⟩) ns9.length cap3]) (by simp [results, go_sem, x0]) rfl ?_
      exact any_out HSP.out.rd HSP.out.gr HSP.out.nd (by omega) HZ9.out HSP.out.xb (by omega) (by omega) (Nat.le_refl _) (by omega) (by omega) HFE.out HTQ.out
end Go.Proofs.YtjkkojefpecbfaaGreat

/- A region that draws its order, whose own operations only read and whose callees write nothing below a block number, walked once in the order of the text. -/
namespace Go.Proofs.YtjkkojefpecbfaaGreat
open Go.ChangeShapes Go.WideShapes Go.ChangeAt Go.RowKit

/-- A world that is as w below block number B. -/
structure Bel (B : Nat) (w : World) where
  w' : World
  h : Below B w w'
theorem bel_ne (B : Nat) (w : World) : Nonempty (Bel B w) := ⟨⟨w, Below.refl B w⟩⟩
theorem wp_region_bel {P : Program} {id : Nat} {Q : Exit → Act → World → Prop} {a : Act} {w : World} {l : List Oper} (B : Nat) (hm : P.follows .mixedOrders = true) (hB : Region.lexB .any l.toArray = true)
    (h : wpQuiet P l.toArray (fun w' => ∃ p : Bel B w, w' = p.w') (fun a' => ∀ w', (∃ p : Bel B w, w' = p.w') → Q .normal a' w') l a) : (Code.region id l.toArray true).wp P Q a w :=
  wp_region_quiet (C := fun w' => ∃ p : Bel B w, w' = p.w') hm hB ⟨⟨w.drew, (Below.refl B w).drew⟩, rfl⟩ (by simpa using h)
theorem calls_bel {P : Program} {f : FuncId} {args : Array Value} {B : Nat} {w : World} {p : Bel B w} {v : Value} (hB : B ≤ w.heap.size)
    (h : Calls P f args p.w' fun e w' => e = .returned v ∧ Below p.w'.heap.size p.w' w') : Calls P f args p.w' fun e w'' => e = .returned v ∧ ∃ q : Bel B w, w'' = q.w' :=
  h.mono fun _ w'' ⟨he, hb⟩ => ⟨he, ⟨w'', p.h.trans (hb.mono (Nat.le_trans hB p.h.size))⟩, rfl⟩
theorem calls_bel_same {P : Program} {f : FuncId} {args : Array Value} {B : Nat} {w : World} {p : Bel B w} {v : Value}
    (h : Calls P f args p.w' fun e w' => e = .returned v ∧ w' = p.w') : Calls P f args p.w' fun e w'' => e = .returned v ∧ ∃ q : Bel B w, w'' = q.w' :=
  h.mono fun _ _ ⟨he, hb⟩ => ⟨he, p, hb⟩
theorem Bel.cell {B : Nat} {w : World} (p : Bel B w) {b o : Nat} {v : Value} (hb : b < B) (h : w.cell? ⟨b, o, none⟩ = some v) : p.w'.cell? ⟨b, o, none⟩ = some v := by
  rw [p.h.cell (p := ⟨b, o, none⟩) hb]; exact h
end Go.Proofs.YtjkkojefpecbfaaGreat
