/- What the specification's l1Draw answers: a tree of few nodes whose texts fit. -/
import Derived.Test.YtbgibiongnhjoaaGreatDraw
namespace Go.Proofs.YtbgibiongnhjoaaGreat
open Go.ChangeShapes Go.WideShapes Go.ChangeAt Go.RowKit

def uvw : List ByteArray := [⟨#[117]⟩, ⟨#[118]⟩, ⟨#[119]⟩]
theorem uvw_ok {s : ByteArray} (h : s ∈ uvw) : (Tr.leaf 5 s).ok := by
  simp only [uvw, List.mem_cons, List.not_mem_nil, or_false] at h
  rcases h with rfl | rfl | rfl <;> refine ⟨.inr rfl, ?_⟩ <;> unfold fieldsB paramB shortB <;> simp only [ByteArray.toList_eq] <;> decide
theorem empty_ok (k : Int) (h : k ≠ 5) : fieldsB ⟨k, ⟨#[]⟩, []⟩ = true := by unfold fieldsB; simp [ByteArray.toList_eq, h]
theorem uvw_cells (w : World) : ∀ j (hj : j < uvw.length), (w.alloc (.cells #[.string ⟨#[117]⟩, .string ⟨#[118]⟩, .string ⟨#[119]⟩] 9)).cell? ⟨w.heap.size, j, none⟩ = some (.string uvw[j]) := by
  intro j hj
  rw [cell_of_row _ _ _ _ _ _ (heap_alloc_new w _)]
  match j, hj with
  | 0, _ => rfl
  | 1, _ => rfl
  | 2, _ => rfl
/-- What is drawn, and the place behind it. -/
def drw : Nat → Nat → Pl → Tr × Pl
  | 0, _, ρ => (.leaf 5 (uvw.getD (ρ.n.v % 3) ⟨#[]⟩), ρ.n.n)
  | d + 1, deep, ρ =>
    if 4 < deep ∨ ρ.v % 8 < 3 then (.leaf 5 (uvw.getD (ρ.n.v % 3) ⟨#[]⟩), ρ.n.n)
    else if ρ.v % 8 = 3 then (.leaf 1 ⟨#[]⟩, ρ.n)
    else if ρ.v % 8 < 6 then (.one 2 ⟨#[]⟩ (drw d (deep + 1) ρ.n).1, (drw d (deep + 1) ρ.n).2)
    else (.two (3 + ((ρ.v / 8 % 2 : Nat) : Int)) ⟨#[]⟩ (drw d (deep + 1) ρ.n).1 (drw d (deep + 1) (drw d (deep + 1) ρ.n).2).1, (drw d (deep + 1) (drw d (deep + 1) ρ.n).2).2)
/-- What l1Draw answers, so many steps above the deepest. -/
def DrawIH (d : Nat) : Prop := ∀ (ρ : Pl) (deep R base : Nat) (w : World), 5 ≤ deep + d → deep ≤ 1000 → RdAt ρ base w R → Calls Tryz.prog 128 #[.pointer (some ⟨R, 0, none⟩), .int .i64 (deep : Int)] w fun e w' => ∃ g t, e = .returned (.pointer (some ⟨g, 0, none⟩)) ∧ TreeAt w'.heap.size w' g t ∧ t.ok ∧ t.cnt + 1 ≤ 2 ^ (d + 1) ∧ RdAt (drw d deep ρ).2 base w' R ∧ w.grownBy w' (some R) ∧ t = (drw d deep ρ).1
theorem tree_rd {ρ : Pl} {base : Nat} {w w' : World} {R g : Nat} {t : Tr} (h : RdAt ρ base w R) (hg : w.grownBy w' (some R)) (ht : TreeAt w.heap.size w g t) : TreeAt w'.heap.size w' g t :=
  (ht.grown hg (fun k hk => by simp at hk; subst hk; obtain ⟨cs, hc⟩ := h.tag; exact ⟨cs, 176, by decide, hc⟩)).mono hg.size

set_option maxRecDepth 20000 in
set_option maxHeartbeats 1000000 in
theorem draw_zero : DrawIH 0 := by
  intro ρ deep R base w hd hdm h
  have hl := h.lt
  have HR0 := hide h
  have HPW : Hid ((Tr.leaf 5 ⟨#[]⟩).cnt + 1 ≤ 2 ^ (0 + 1)) := by show _ ≤ _; simp only [Tr.cnt]; have : 2 ^ 1 ≤ 2 ^ (0 + 1) := Nat.pow_le_pow_right (by omega) (by omega); omega
  clear h
  go_enter Tryz.func128, Tryz.ntmps128
  go_wp2_with fail
  refine (next_any R base _ HR0.out).mono ?_
  rintro e w1 ⟨v, rfl, hv0, hv1, hr1, hg1, hve⟩
  have hsz1 := hg1.size
  have hRl := hr1.lt
  have HR1 := hide hr1
  have HG1 := hide hg1
  clear hr1 hg1 hve
  have d1 : decide (4 < (deep : Int)) = true := by simp; omega
  go_wp2_with (first
    | (go_at_call 174; refine (pick_any R base w1.heap.size uvw _ (HR1.out.keep (bel_alloc (Below.refl _ _) _)) (by decide) (by decide) (by omega) (uvw_cells w1)).mono ?_; rintro e w2 ⟨s, rfl, hs, hr2, hg2, hse⟩; have HSE := hide hse; clear hse)
    | (go_at_call 173; refine (l1Param_any s _).mono ?_; rintro e w3 ⟨rfl, ht3, hb3⟩)
    | fail)
  go_ret
  exact ⟨_, .leaf 5 s, rfl, ht3, uvw_ok hs, HPW.out, hr2.keep hb3, ((HG1.out.trans (((grown_of (bel_alloc (Below.refl w1.heap.size w1) _)).but (some R)).trans hg2))).trans ((grown_of hb3).but (some R)), by rw [HSE.out]; rfl⟩

set_option maxRecDepth 20000 in
set_option maxHeartbeats 2000000 in
theorem draw_succ (d : Nat) (IH : Hid (DrawIH d)) : DrawIH (d + 1) := by
  intro ρ deep R base w hd hdm h
  have hl := h.lt
  have HR0 := hide h
  have HPW : Hid ((Tr.leaf 5 ⟨#[]⟩).cnt + 1 ≤ 2 ^ ((d + 1) + 1)) := by show _ ≤ _; simp only [Tr.cnt]; have : 2 ^ 1 ≤ 2 ^ ((d + 1) + 1) := Nat.pow_le_pow_right (by omega) (by omega); omega
  clear h
  go_enter Tryz.func128, Tryz.ntmps128
  go_wp2_with fail
  refine (next_any R base _ HR0.out).mono ?_
  rintro e w1 ⟨v, rfl, hv0, hv1, hr1, hg1, hve⟩
  have hsz1 := hg1.size
  have hRl := hr1.lt
  have HR1 := hide hr1
  have HG1 := hide hg1
  have HVE := hide hve
  clear hr1 hg1 hve
  by_cases hdeep : 4 < deep
  · have d1 : decide (4 < (deep : Int)) = true := by simp; omega
    go_wp2_with (first
      | (go_at_call 174; refine (pick_any R base w1.heap.size uvw _ (HR1.out.keep (bel_alloc (Below.refl _ _) _)) (by decide) (by decide) (by omega) (uvw_cells w1)).mono ?_; rintro e w2 ⟨s, rfl, hs, hr2, hg2, hse⟩; have HSE := hide hse; clear hse)
      | (go_at_call 173; refine (l1Param_any s _).mono ?_; rintro e w3 ⟨rfl, ht3, hb3⟩)
      | fail)
    go_ret
    have HE : drw (d + 1) deep ρ = (.leaf 5 (uvw.getD (ρ.n.v % 3) ⟨#[]⟩), ρ.n.n) := by rw [drw, if_pos (.inl hdeep)]
    exact ⟨_, .leaf 5 s, rfl, ht3, uvw_ok hs, HPW.out, by rw [HE]; exact hr2.keep hb3, ((HG1.out.trans (((grown_of (bel_alloc (Below.refl w1.heap.size w1) _)).but (some R)).trans hg2))).trans ((grown_of hb3).but (some R)), by rw [HE, HSE.out]; rfl⟩
  have d1 : decide (4 < (deep : Int)) = false := by simp; omega
  obtain ⟨r, hr, hrl⟩ := tmod_nat (m := 8) hv0 (by omega)
  have hr' : v.tmod 8 = (r : Int) := hr
  have HRE : Hid (r = ρ.v % 8) := by show _ = _; have h1 := hr; rw [HVE.out] at h1; have h2 := tmod_is (n := ρ.v) (m := 8); omega
  have hwr : IntKind.i64.wrap (r : Int) = (r : Int) := by rw [IntKind.wrap_i64]; omega
  have hwd : IntKind.i64.wrap ((deep : Int) + 1) = ((deep + 1 : Nat) : Int) := by rw [IntKind.wrap_i64]; omega
  by_cases h3 : r < 3
  · have d2 : decide ((r : Int) < 3) = true := by simp; omega
    go_wp2_with (first
      | (go_at_call 174; refine (pick_any R base w1.heap.size uvw _ (HR1.out.keep (bel_alloc (Below.refl _ _) _)) (by decide) (by decide) (by omega) (uvw_cells w1)).mono ?_; rintro e w2 ⟨s, rfl, hs, hr2, hg2, hse⟩; have HSE := hide hse; clear hse)
      | (go_at_call 173; refine (l1Param_any s _).mono ?_; rintro e w3 ⟨rfl, ht3, hb3⟩)
      | fail)
    go_ret
    have HE : drw (d + 1) deep ρ = (.leaf 5 (uvw.getD (ρ.n.v % 3) ⟨#[]⟩), ρ.n.n) := by rw [drw, if_pos (.inr (by rw [← HRE.out]; exact h3))]
    exact ⟨_, .leaf 5 s, rfl, ht3, uvw_ok hs, HPW.out, by rw [HE]; exact hr2.keep hb3, ((HG1.out.trans (((grown_of (bel_alloc (Below.refl w1.heap.size w1) _)).but (some R)).trans hg2))).trans ((grown_of hb3).but (some R)), by rw [HE, HSE.out]; rfl⟩
  have d2 : decide ((r : Int) < 3) = false := by simp; omega
  by_cases he3 : r = 3
  · have q3 : ((r : Int) == 3) = true := beq_iff_eq.2 (by omega)
    have HE3 := hide he3
    clear he3
    go_wp2_with (first
      | (go_at_call 175; refine (l1Zero_any _).mono ?_; rintro e w3 ⟨rfl, ht3, hb3⟩)
      | fail)
    go_ret
    have HE : drw (d + 1) deep ρ = (.leaf 1 ⟨#[]⟩, ρ.n) := by rw [drw, if_neg (by rw [← HRE.out]; omega), if_pos (by rw [← HRE.out]; exact HE3.out)]
    exact ⟨_, .leaf 1 ⟨#[]⟩, rfl, ht3, ⟨.inl rfl, empty_ok 1 (by decide)⟩, HPW.out, by rw [HE]; exact HR1.out.keep hb3, HG1.out.trans ((grown_of hb3).but (some R)), by rw [HE]⟩
  have q3 : ((r : Int) == 3) = false := beq_eq_false_iff_ne.2 (by omega)
  by_cases h6 : r < 6
  · have d6 : decide ((r : Int) < 6) = true := by simp; omega
    go_wp2_with (first
      | (go_at_call 128; refine (IH.out ρ.n (deep + 1) R base _ (by omega) (by omega) HR1.out).mono ?_; rintro e w2 ⟨g2, t2, rfl, ht2, hok2, hc2, hr2, hg2, hte2⟩; have HTE2 := hide hte2; clear hte2)
      | (go_at_call 176; refine (l1Succ_any t2 g2 _ ht2).mono ?_; rintro e w3 ⟨rfl, ht3, hb3⟩)
      | fail)
    go_ret
    have HE : drw (d + 1) deep ρ = (.one 2 ⟨#[]⟩ (drw d (deep + 1) ρ.n).1, (drw d (deep + 1) ρ.n).2) := by rw [drw, if_neg (by rw [← HRE.out]; omega), if_neg (by rw [← HRE.out]; exact he3), if_pos (by rw [← HRE.out]; exact h6)]
    exact ⟨_, .one 2 ⟨#[]⟩ t2, rfl, ht3, ⟨rfl, empty_ok 2 (by decide), hok2⟩, by simp only [Tr.cnt]; rw [Nat.pow_succ]; omega, by rw [HE]; exact hr2.keep hb3, (HG1.out.trans hg2).trans ((grown_of hb3).but (some R)), by rw [HE, HTE2.out]⟩
  have d6 : decide ((r : Int) < 6) = false := by simp; omega
  obtain ⟨q, hq, hq2, HQE⟩ : ∃ q : Nat, v.tdiv 8 = (q : Int) ∧ q < 32 ∧ Hid (q = ρ.v / 8) :=
    ⟨ρ.v / 8, by rw [HVE.out, show (8 : Int) = ((8 : Nat) : Int) from rfl, ← Int.ofNat_tdiv], by have := ρ.v_lt; omega, rfl⟩
  obtain ⟨r2, hr2', hrl2⟩ := tmod_nat (v := (q : Int)) (m := 2) (by omega) (by omega)
  have hr2'' : (q : Int).tmod 2 = (r2 : Int) := hr2'
  have HE2 : Hid (r2 = ρ.v / 8 % 2) := by show _ = _; have h1 := hr2'; have h2 := tmod_is (n := q) (m := 2); have h3 := HQE.out; rw [← h3]; omega
  have hwq : IntKind.i64.wrap (q : Int) = (q : Int) := by rw [IntKind.wrap_i64]; omega
  have hw2 : IntKind.i64.wrap (r2 : Int) = (r2 : Int) := by rw [IntKind.wrap_i64]; omega
  have hw3 : IntKind.i64.wrap (3 + (r2 : Int)) = 3 + (r2 : Int) := by rw [IntKind.wrap_i64]; omega
  go_wp2_with fail
  refine (IH.out ρ.n (deep + 1) R base _ (by omega) (by omega) HR1.out).mono ?_
  rintro e w2 ⟨g2, t2, rfl, ht2, hok2, hc2, hrr2, hg2, hte2⟩
  have HTE2 := hide hte2
  clear hte2
  have HT2 := hide ht2
  have HR2 := hide hrr2
  have HG2 := hide hg2
  have HOK2 := hide hok2
  clear ht2 hrr2 hg2 hok2
  go_wp2_with fail
  refine (IH.out _ (deep + 1) R base _ (by omega) (by omega) HR2.out).mono ?_
  rintro e w3 ⟨g3, t3, rfl, ht3, hok3, hc3, hrr3, hg3, hte3⟩
  have HTE3 := hide hte3
  clear hte3
  have HT2' := hide (tree_rd HR2.out hg3 HT2.out)
  have h4a := HT2'.out.cell4
  have h4b := ht3.cell4
  have hs2 := t2.sz_le
  have hs3 := t3.sz_le
  have HT3 := hide ht3
  have HR3 := hide hrr3
  have HG3 := hide hg3
  have HOK3 := hide hok3
  clear ht3 hrr3 hg3 hok3
  go_wp2_with (first
    | (go_at_call 160; refine (make_two (3 + (r2 : Int)) ⟨#[]⟩ g2 t2.sz g3 t3.sz _ h4a hs2 h4b hs3).mono ?_; rintro e w4 ⟨rfl, n, rfl⟩)
    | fail)
  go_ret
  have HE : drw (d + 1) deep ρ = (.two (3 + ((ρ.v / 8 % 2 : Nat) : Int)) ⟨#[]⟩ (drw d (deep + 1) ρ.n).1 (drw d (deep + 1) (drw d (deep + 1) ρ.n).2).1, (drw d (deep + 1) (drw d (deep + 1) ρ.n).2).2) := by
    rw [drw, if_neg (by rw [← HRE.out]; omega), if_neg (by rw [← HRE.out]; exact he3), if_neg (by rw [← HRE.out]; exact h6)]
  exact ⟨_, .two (3 + (r2 : Int)) ⟨#[]⟩ t2 t3, rfl, tree_two HT2'.out HT3.out _ _ n, ⟨by omega, empty_ok _ (by omega), HOK2.out, HOK3.out⟩, by simp only [Tr.cnt]; rw [Nat.pow_succ]; omega, by rw [HE]; exact HR3.out.keep (bel_new w3 _ n), ((HG1.out.trans HG2.out).trans HG3.out).trans ((grown_of (bel_new w3 _ n)).but (some R)), by rw [HE, HTE2.out, HTE3.out, HE2.out]⟩

theorem l1Draw_any : ∀ d, DrawIH d
  | 0 => draw_zero
  | d + 1 => draw_succ d (hide (l1Draw_any d))
end Go.Proofs.YtbgibiongnhjoaaGreat

/- What the specification's l1Open and l1Many answer. -/
namespace Go.Proofs.YtbgibiongnhjoaaGreat
open Go.ChangeShapes Go.WideShapes Go.ChangeAt Go.RowKit

/-- Bytes that came in as an argument. -/
def CodeAt (w : World) (a : Option Addr) (bs : List UInt8) : Prop :=
  0 < bs.length → ∃ b off, a = some ⟨b, off, none⟩ ∧ ∀ j (h : j < bs.length), w.cell? ⟨b, off + j, none⟩ = some (.int .u8 (bs[j].toNat : Int))
theorem CodeAt.bytes {w : World} {a : Option Addr} {bs : List UInt8} (h : CodeAt w a bs) (m : Nat) : BytesAt w.heap.size w a (bs.take m) := fun h0 => by
  have hl : (bs.take m).length = min m bs.length := List.length_take
  obtain ⟨b, off, h1, h2⟩ := h (by omega)
  refine ⟨b, off, h1, lt_cell (h2 0 (by omega)), fun j hj => ?_⟩
  rw [h2 j (by omega)]
  simp
theorem CodeAt.keep {w w' : World} {a : Option Addr} {bs : List UInt8} (h : CodeAt w a bs) (hb : Below w.heap.size w w') : CodeAt w' a bs := fun h0 => by
  obtain ⟨b, off, h1, h2⟩ := h h0
  exact ⟨b, off, h1, fun j hj => keep_cell hb (h2 j hj)⟩

set_option maxRecDepth 20000 in
set_option maxHeartbeats 1000000 in
theorem l1Open_any (a : Option Addr) (bs : List UInt8) (cap : Nat) (w : World) (h : CodeAt w a bs) (hn : bs.length ≤ cap) (hc : cap ≤ maxLen) :
    Calls Tryz.prog 79 #[.slice a bs.length cap] w fun e w' => e = .returned (.pointer (some ⟨w.heap.size, 0, none⟩)) ∧ RdAt ⟨bs.take 1000, 0⟩ w.heap.size w' w.heap.size ∧ Below w.heap.size w w' := by
  have H := hide (h.bytes 1000)
  have hl : (bs.take 1000).length = min 1000 bs.length := List.length_take
  have HL := hide hl
  unfold maxLen at hc
  clear h hl
  obtain ⟨n, hnn⟩ : ∃ n, n = bs.length := ⟨_, rfl⟩
  rw [← hnn] at hn HL ⊢
  clear hnn
  by_cases hb : 1000 < n
  · have d1 : decide (1000 < (n : Int)) = true := by simp; omega
    have hsl : ∀ W : World, (Instr.slice 62 (.slice a n cap) none (some (.int .i64 1000)) none).run Tryz.prog W = .ok (.slice a 1000 cap) W := fun W => by
      rw [run_slice_h W 62 a n cap (by kernel_rfl) .i64 1000 (by omega) (by omega)]
      have h0 : ¬ cap = 0 := by omega
      simp [sliced, go_sem]
    go_enter Tryz.func79, Tryz.ntmps79
    go_wp2_with fail
    go_ret
    have hl2 : (bs.take 1000).length = 1000 := by have := HL.out; omega
    exact ⟨rfl, ⟨a, cap, by rw [hl2]; exact World.ownsRow_lit w _ 1 (Nat.le_refl _) (by unfold maxLen; omega) rfl, by rw [hl2]; exact Nat.le_refl _, by show 0 ≤ 1000; omega, H.out.keep (bel_alloc (Below.refl _ _) _)⟩, bel_alloc (Below.refl _ _) _⟩
  · have d1 : decide (1000 < (n : Int)) = false := by simp; omega
    go_enter Tryz.func79, Tryz.ntmps79
    go_wp2_with fail
    go_ret
    have hl2 : (bs.take 1000).length = n := by have := HL.out; omega
    exact ⟨rfl, ⟨a, cap, by rw [hl2]; exact World.ownsRow_lit w _ 1 (Nat.le_refl _) (by unfold maxLen; omega) rfl, by rw [hl2]; omega, by show 0 ≤ 1000; omega, H.out.keep (bel_alloc (Below.refl _ _) _)⟩, bel_alloc (Below.refl _ _) _⟩

def succs : Nat → Tr → Tr
  | 0, t => t
  | n + 1, t => .one 2 ⟨#[]⟩ (succs n t)
theorem succs_cnt (t : Tr) : ∀ n, (succs n t).cnt = n + t.cnt
  | 0 => by simp [succs]
  | n + 1 => by simp only [succs, Tr.cnt, succs_cnt t n]; omega
set_option maxRecDepth 20000 in
set_option maxHeartbeats 1000000 in
theorem l1Many_any (t : Tr) (p n : Nat) (w : World) (ht : TreeAt w.heap.size w p t) (hn : n ≤ 64) :
    Calls Tryz.prog 197 #[.pointer (some ⟨p, 0, none⟩), .int .i64 (n : Int)] w fun e w' => ∃ g, e = .returned (.pointer (some ⟨g, 0, none⟩)) ∧ TreeAt w'.heap.size w' g (succs n t) ∧ Below w.heap.size w w' := by
  have HT := hide ht
  clear ht
  go_enter Tryz.func197, Tryz.ntmps197
  go_wp2_with fail
  go_loopw [0, 5] (fun l i wr => ∃ (j g : Nat), j ≤ n ∧ i = .int .i64 j ∧ l = .pointer (some ⟨g, 0, none⟩) ∧ Hid (TreeAt wr.heap.size wr g (succs j t)) ∧ Below w.heap.size w wr) (fun _ i _ => n - (intOf i).toNat)
  case atStart => exact ⟨0, p, by omega, rfl, rfl, HT.out, Below.refl _ _⟩
  case round =>
    obtain ⟨j, g, hj, rfl, rfl, HTR, hbel⟩ := hrel
    by_cases hlt : j < n
    · have d1 : decide ((j : Int) < (n : Int)) = true := by simp; omega
      have d2 : decide ((j : Int) ≤ 64) = true := by simp; omega
      go_wp2_with (go_at_call 176; refine (l1Succ_any _ g _ HTR.out).mono ?_; rintro e w3 ⟨rfl, ht3, hb3⟩)
      go_roundw
      case rel => exact ⟨j + 1, _, by omega, by go_num, rfl, ht3, hbel.trans (hb3.mono hbel.size)⟩
      case measure => simp [intOf]; omega
    · have d1 : decide ((j : Int) < (n : Int)) = false := by simp; omega
      have hje : j = n := by omega
      have HTN : Hid (TreeAt wr.heap.size wr g (succs n t)) := by have := HTR.out; rwa [hje] at this
      clear hje
      go_wp2_with fail
      go_ret
      exact ⟨g, rfl, HTN.out, hbel⟩

end Go.Proofs.YtbgibiongnhjoaaGreat

/- A node of a level of one's own is written anew. -/
namespace Go.Proofs.YtbgibiongnhjoaaGreat
open Go.ChangeShapes Go.WideShapes Go.ChangeAt Go.RowKit

theorem set3_far (xs : List Value) (p j : Nat) (a b c : Value) (h1 : j ≠ p * 3) (h2 : j ≠ p * 3 + 1) (h3 : j ≠ p * 3 + 2) : (((xs.set (p * 3) a).set (p * 3 + 1) b).set (p * 3 + 2) c)[j]? = xs[j]? := by
  rw [List.getElem?_set_ne (fun h => h3 h.symm), List.getElem?_set_ne (fun h => h2 h.symm), List.getElem?_set_ne (fun h => h1 h.symm)]
theorem set3_at (xs : List Value) (p : Nat) (a b c : Value) (h : p * 3 + 2 < xs.length) : (((xs.set (p * 3) a).set (p * 3 + 1) b).set (p * 3 + 2) c)[p * 3]? = some a ∧ (((xs.set (p * 3) a).set (p * 3 + 1) b).set (p * 3 + 2) c)[p * 3 + 1]? = some b ∧ (((xs.set (p * 3) a).set (p * 3 + 1) b).set (p * 3 + 2) c)[p * 3 + 2]? = some c := by
  refine ⟨?_, ?_, ?_⟩
  · rw [List.getElem?_set_ne (by omega), List.getElem?_set_ne (by omega), List.getElem?_set_self (by omega)]
  · rw [List.getElem?_set_ne (by omega), List.getElem?_set_self (by rw [List.length_set]; omega)]
  · rw [List.getElem?_set_self (by rw [List.length_set, List.length_set]; omega)]
theorem grown_set3 (w : World) (g i j k : Nat) (a b c : Value) : w.grownBy (((w.setCell ⟨g, i, none⟩ a).setCell ⟨g, j, none⟩ b).setCell ⟨g, k, none⟩ c) (some g) := ((grown_set w ⟨g, i, none⟩ a).trans (grown_set (w.setCell ⟨g, i, none⟩ a) ⟨g, j, none⟩ b)).trans (grown_set ((w.setCell ⟨g, i, none⟩ a).setCell ⟨g, j, none⟩ b) ⟨g, k, none⟩ c)
theorem own_set3 {base e s g n cap : Nat} {w : World} {xs : List Value} (h : w.ownsRow base e s (.slice (some ⟨g, 0, none⟩) n cap) n xs) (i j k : Nat) (a b c : Value) : (((w.setCell ⟨g, i, none⟩ a).setCell ⟨g, j, none⟩ b).setCell ⟨g, k, none⟩ c).ownsRow base e s (.slice (some ⟨g, 0, none⟩) n cap) n (((xs.set i a).set j b).set k c) := by
  have h1 := (h.stored i a).1
  have h2 := (h1.stored j b).1
  exact (h2.stored k c).1
theorem own_len {base e s g n cap : Nat} {w : World} {xs : List Value} (h : w.ownsRow base e s (.slice (some ⟨g, 0, none⟩) n cap) n xs) : xs.length = n * s := h.1

end Go.Proofs.YtbgibiongnhjoaaGreat
