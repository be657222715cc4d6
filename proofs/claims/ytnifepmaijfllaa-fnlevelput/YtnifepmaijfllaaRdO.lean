/- What the specification's l1Draw answers: a tree of few nodes whose texts fit. -/
import Derived.Test.YtnifepmaijfllaaDraw
namespace Go.Proofs.Ytnifepmaijfllaa
open Go.ChangeShapes Go.WideShapes Go.ChangeAt Go.RowKit

def uvw : List ByteArray := [⟨#[117]⟩, ⟨#[118]⟩, ⟨#[119]⟩]
theorem uvw_ok {s : ByteArray} (h : s ∈ uvw) : (Tr.leaf 5 s).ok := by
  simp only [uvw, List.mem_cons, List.not_mem_nil, or_false] at h
  rcases h with rfl | rfl | rfl <;> refine ⟨.inr rfl, ?_⟩ <;> unfold fieldsB paramB shortB <;> simp only [ByteArray.toList_eq] <;> decide
theorem empty_ok (k : Int) (h : k ≠ 5) : fieldsB ⟨k, ⟨#[]⟩, []⟩ = true := by unfold fieldsB; simp [ByteArray.toList_eq, h]
theorem uvw_cells (w : World) : ∀ j (hj : j < uvw.length), (w.alloc (.cells #[.string ⟨#[117]⟩, .string ⟨#[118]⟩, .string ⟨#[119]⟩] 9)).cell? ⟨w.heap.size, j, none⟩ = some (.string uvw[j]) := by
  intro j hj
  rw [cell_of_row _ _ _ _ _ _ (heap_alloc_new w _)]
  match j, hj with
  | 0, _ => rfl
  | 1, _ => rfl
  | 2, _ => rfl
/-- What l1Draw answers, so many steps above the deepest. -/
def DrawIH (d : Nat) : Prop := ∀ (deep R base : Nat) (w : World), 5 ≤ deep + d → deep ≤ 1000 → RdAt base w R → Calls Try.prog 131 #[.pointer (some ⟨R, 0, none⟩), .int .i64 (deep : Int)] w fun e w' => ∃ g t, e = .returned (.pointer (some ⟨g, 0, none⟩)) ∧ TreeAt w'.heap.size w' g t ∧ t.ok ∧ t.cnt + 1 ≤ 2 ^ (d + 1) ∧ RdAt base w' R ∧ w.grownBy w' (some R)
theorem tree_rd {base : Nat} {w w' : World} {R g : Nat} {t : Tr} (h : RdAt base w R) (hg : w.grownBy w' (some R)) (ht : TreeAt w.heap.size w g t) : TreeAt w'.heap.size w' g t :=
  (ht.grown hg (fun k hk => by simp at hk; subst hk; obtain ⟨cs, hc⟩ := h.tag; exact ⟨cs, 166, by decide, hc⟩)).mono hg.size

set_option maxRecDepth 20000 in
set_option maxHeartbeats 1000000 in
theorem draw_zero : DrawIH 0 := by
  intro deep R base w hd hdm h
  have hl := h.lt
  have HR0 := hide h
  have HPW : Hid ((Tr.leaf 5 ⟨#[]⟩).cnt + 1 ≤ 2 ^ (0 + 1)) := by show _ ≤ _; simp only [Tr.cnt]; have : 2 ^ 1 ≤ 2 ^ (0 + 1) := Nat.pow_le_pow_right (by omega) (by omega); omega
  clear h
  go_enter Try.func131, Try.ntmps131
  go_wp2_with fail
  refine (next_any R base _ HR0.out).mono ?_
  rintro e w1 ⟨v, rfl, hv0, hv1, hr1, hg1⟩
  have hsz1 := hg1.size
  have hRl := hr1.lt
  have HR1 := hide hr1
  have HG1 := hide hg1
  clear hr1 hg1
  have d1 : decide (4 < (deep : Int)) = true := by simp; omega
  go_wp2_with (first
    | (go_at_call 132; refine (pick_any R base w1.heap.size uvw _ (HR1.out.keep (bel_alloc (Below.refl _ _) _)) (by decide) (by decide) (by omega) (uvw_cells w1)).mono ?_; rintro e w2 ⟨s, rfl, hs, hr2, hg2⟩)
    | (go_at_call 135; refine (l1Param_any s _).mono ?_; rintro e w3 ⟨rfl, ht3, hb3⟩)
    | fail)
  go_ret
  exact ⟨_, .leaf 5 s, rfl, ht3, uvw_ok hs, HPW.out, hr2.keep hb3, ((HG1.out.trans (((grown_of (bel_alloc (Below.refl w1.heap.size w1) _)).but (some R)).trans hg2))).trans ((grown_of hb3).but (some R))⟩

set_option maxRecDepth 20000 in
set_option maxHeartbeats 2000000 in
theorem draw_succ (d : Nat) (IH : Hid (DrawIH d)) : DrawIH (d + 1) := by
  intro deep R base w hd hdm h
  have hl := h.lt
  have HR0 := hide h
  have HPW : Hid ((Tr.leaf 5 ⟨#[]⟩).cnt + 1 ≤ 2 ^ ((d + 1) + 1)) := by show _ ≤ _; simp only [Tr.cnt]; have : 2 ^ 1 ≤ 2 ^ ((d + 1) + 1) := Nat.pow_le_pow_right (by omega) (by omega); omega
  clear h
  go_enter Try.func131, Try.ntmps131
  go_wp2_with fail
  refine (next_any R base _ HR0.out).mono ?_
  rintro e w1 ⟨v, rfl, hv0, hv1, hr1, hg1⟩
  have hsz1 := hg1.size
  have hRl := hr1.lt
  have HR1 := hide hr1
  have HG1 := hide hg1
  clear hr1 hg1
  by_cases hdeep : 4 < deep
  · have d1 : decide (4 < (deep : Int)) = true := by simp; omega
    go_wp2_with (first
      | (go_at_call 132; refine (pick_any R base w1.heap.size uvw _ (HR1.out.keep (bel_alloc (Below.refl _ _) _)) (by decide) (by decide) (by omega) (uvw_cells w1)).mono ?_; rintro e w2 ⟨s, rfl, hs, hr2, hg2⟩)
      | (go_at_call 135; refine (l1Param_any s _).mono ?_; rintro e w3 ⟨rfl, ht3, hb3⟩)
      | fail)
    go_ret
    exact ⟨_, .leaf 5 s, rfl, ht3, uvw_ok hs, HPW.out, hr2.keep hb3, ((HG1.out.trans (((grown_of (bel_alloc (Below.refl w1.heap.size w1) _)).but (some R)).trans hg2))).trans ((grown_of hb3).but (some R))⟩
  have d1 : decide (4 < (deep : Int)) = false := by simp; omega
  obtain ⟨r, hr, hrl⟩ := tmod_nat (m := 8) hv0 (by omega)
  have hr' : v.tmod 8 = (r : Int) := hr
  have hwr : IntKind.i64.wrap (r : Int) = (r : Int) := by rw [IntKind.wrap_i64]; omega
  have hwd : IntKind.i64.wrap ((deep : Int) + 1) = ((deep + 1 : Nat) : Int) := by rw [IntKind.wrap_i64]; omega
  by_cases h3 : r < 3
  · have d2 : decide ((r : Int) < 3) = true := by simp; omega
    go_wp2_with (first
      | (go_at_call 132; refine (pick_any R base w1.heap.size uvw _ (HR1.out.keep (bel_alloc (Below.refl _ _) _)) (by decide) (by decide) (by omega) (uvw_cells w1)).mono ?_; rintro e w2 ⟨s, rfl, hs, hr2, hg2⟩)
      | (go_at_call 135; refine (l1Param_any s _).mono ?_; rintro e w3 ⟨rfl, ht3, hb3⟩)
      | fail)
    go_ret
    exact ⟨_, .leaf 5 s, rfl, ht3, uvw_ok hs, HPW.out, hr2.keep hb3, ((HG1.out.trans (((grown_of (bel_alloc (Below.refl w1.heap.size w1) _)).but (some R)).trans hg2))).trans ((grown_of hb3).but (some R))⟩
  have d2 : decide ((r : Int) < 3) = false := by simp; omega
  by_cases he3 : r = 3
  · have q3 : ((r : Int) == 3) = true := beq_iff_eq.2 (by omega)
    clear he3
    go_wp2_with (first
      | (go_at_call 134; refine (l1Zero_any _).mono ?_; rintro e w3 ⟨rfl, ht3, hb3⟩)
      | fail)
    go_ret
    exact ⟨_, .leaf 1 ⟨#[]⟩, rfl, ht3, ⟨.inl rfl, empty_ok 1 (by decide)⟩, HPW.out, HR1.out.keep hb3, HG1.out.trans ((grown_of hb3).but (some R))⟩
  have q3 : ((r : Int) == 3) = false := beq_eq_false_iff_ne.2 (by omega)
  by_cases h6 : r < 6
  · have d6 : decide ((r : Int) < 6) = true := by simp; omega
    go_wp2_with (first
      | (go_at_call 131; refine (IH.out (deep + 1) R base _ (by omega) (by omega) HR1.out).mono ?_; rintro e w2 ⟨g2, t2, rfl, ht2, hok2, hc2, hr2, hg2⟩)
      | (go_at_call 130; refine (l1Succ_any t2 g2 _ ht2).mono ?_; rintro e w3 ⟨rfl, ht3, hb3⟩)
      | fail)
    go_ret
    exact ⟨_, .one 2 ⟨#[]⟩ t2, rfl, ht3, ⟨rfl, empty_ok 2 (by decide), hok2⟩, by simp only [Tr.cnt]; rw [Nat.pow_succ]; omega, hr2.keep hb3, (HG1.out.trans hg2).trans ((grown_of hb3).but (some R))⟩
  have d6 : decide ((r : Int) < 6) = false := by simp; omega
  obtain ⟨q, hq, hq2⟩ : ∃ q : Nat, v.tdiv 8 = (q : Int) ∧ q < 32 := by
    obtain ⟨n, rfl⟩ : ∃ n : Nat, v = (n : Int) := ⟨v.toNat, by omega⟩
    exact ⟨n / 8, by rw [show (8 : Int) = ((8 : Nat) : Int) from rfl, ← Int.ofNat_tdiv], by omega⟩
  obtain ⟨r2, hr2', hrl2⟩ := tmod_nat (v := (q : Int)) (m := 2) (by omega) (by omega)
  have hr2'' : (q : Int).tmod 2 = (r2 : Int) := hr2'
  have hwq : IntKind.i64.wrap (q : Int) = (q : Int) := by rw [IntKind.wrap_i64]; omega
  have hw2 : IntKind.i64.wrap (r2 : Int) = (r2 : Int) := by rw [IntKind.wrap_i64]; omega
  have hw3 : IntKind.i64.wrap (3 + (r2 : Int)) = 3 + (r2 : Int) := by rw [IntKind.wrap_i64]; omega
  go_wp2_with fail
  refine (IH.out (deep + 1) R base _ (by omega) (by omega) HR1.out).mono ?_
  rintro e w2 ⟨g2, t2, rfl, ht2, hok2, hc2, hrr2, hg2⟩
  have HT2 := hide ht2
  have HR2 := hide hrr2
  have HG2 := hide hg2
  have HOK2 := hide hok2
  clear ht2 hrr2 hg2 hok2
  go_wp2_with fail
  refine (IH.out (deep + 1) R base _ (by omega) (by omega) HR2.out).mono ?_
  rintro e w3 ⟨g3, t3, rfl, ht3, hok3, hc3, hrr3, hg3⟩
  have HT2' := hide (tree_rd HR2.out hg3 HT2.out)
  have h4a := HT2'.out.cell4
  have h4b := ht3.cell4
  have hs2 := t2.sz_le
  have hs3 := t3.sz_le
  have HT3 := hide ht3
  have HR3 := hide hrr3
  have HG3 := hide hg3
  have HOK3 := hide hok3
  clear ht3 hrr3 hg3 hok3
  go_wp2_with (first
    | (go_at_call 117; refine (make_two (3 + (r2 : Int)) ⟨#[]⟩ g2 t2.sz g3 t3.sz _ h4a hs2 h4b hs3).mono ?_; rintro e w4 ⟨rfl, n, rfl⟩)
    | fail)
  go_ret
  exact ⟨_, .two (3 + (r2 : Int)) ⟨#[]⟩ t2 t3, rfl, tree_two HT2'.out HT3.out _ _ n, ⟨by omega, empty_ok _ (by omega), HOK2.out, HOK3.out⟩, by simp only [Tr.cnt]; rw [Nat.pow_succ]; omega, HR3.out.keep (bel_new w3 _ n), ((HG1.out.trans HG2.out).trans HG3.out).trans ((grown_of (bel_new w3 _ n)).but (some R))⟩

theorem l1Draw_any : ∀ d, DrawIH d
  | 0 => draw_zero
  | d + 1 => draw_succ d (hide (l1Draw_any d))
end Go.Proofs.Ytnifepmaijfllaa

/- What the specification's l1Open and l1Many answer. -/
namespace Go.Proofs.Ytnifepmaijfllaa
open Go.ChangeShapes Go.WideShapes Go.ChangeAt Go.RowKit

/-- Bytes that came in as an argument. -/
def CodeAt (w : World) (a : Option Addr) (n : Nat) : Prop :=
  0 < n → ∃ b off, a = some ⟨b, off, none⟩ ∧ ∀ j, j < n → ∃ q, w.cell? ⟨b, off + j, none⟩ = some (.int .u8 q) ∧ 0 ≤ q ∧ q < 256
theorem CodeAt.bytes {w : World} {a : Option Addr} {n m : Nat} (h : CodeAt w a n) (hm : m ≤ n) : BytesAt w.heap.size w a m := fun h0 => by
  obtain ⟨b, off, h1, h2⟩ := h (by omega)
  refine ⟨b, off, h1, ?_, fun j hj => h2 j (by omega)⟩
  obtain ⟨q, h3, _⟩ := h2 0 (by omega)
  exact lt_cell h3

set_option maxRecDepth 20000 in
set_option maxHeartbeats 1000000 in
theorem l1Open_any (a : Option Addr) (n cap : Nat) (w : World) (h : CodeAt w a n) (hn : n ≤ cap) (hc : cap ≤ maxLen) :
    Calls Try.prog 88 #[.slice a n cap] w fun e w' => e = .returned (.pointer (some ⟨w.heap.size, 0, none⟩)) ∧ RdAt w.heap.size w' w.heap.size ∧ Below w.heap.size w w' := by
  have H := hide h
  unfold maxLen at hc
  clear h
  by_cases hb : 1000 < n
  · have d1 : decide (1000 < (n : Int)) = true := by simp; omega
    have hsl : ∀ W : World, (Instr.slice 46 (.slice a n cap) none (some (.int .i64 1000)) none).run Try.prog W = .ok (.slice a 1000 cap) W := fun W => by
      rw [run_slice_h W 46 a n cap (by kernel_rfl) .i64 1000 (by omega) (by omega)]
      have h0 : ¬ cap = 0 := by omega
      simp [sliced, go_sem]
    go_enter Try.func88, Try.ntmps88
    go_wp2_with fail
    go_ret
    exact ⟨rfl, ⟨a, 1000, cap, 0, World.ownsRow_lit w _ 1 (Nat.le_refl _) (by unfold maxLen; omega) rfl, by omega, by omega, (H.out.bytes (by omega)).keep (bel_alloc (Below.refl _ _) _)⟩, bel_alloc (Below.refl _ _) _⟩
  · have d1 : decide (1000 < (n : Int)) = false := by simp; omega
    go_enter Try.func88, Try.ntmps88
    go_wp2_with fail
    go_ret
    exact ⟨rfl, ⟨a, n, cap, 0, World.ownsRow_lit w _ 1 (Nat.le_refl _) (by unfold maxLen; omega) rfl, by omega, by omega, (H.out.bytes (by omega)).keep (bel_alloc (Below.refl _ _) _)⟩, bel_alloc (Below.refl _ _) _⟩

def succs : Nat → Tr → Tr
  | 0, t => t
  | n + 1, t => .one 2 ⟨#[]⟩ (succs n t)
theorem succs_ok {t : Tr} (h : t.ok) : ∀ n, (succs n t).ok
  | 0 => h
  | n + 1 => ⟨rfl, empty_ok 2 (by decide), succs_ok h n⟩
theorem succs_cnt (t : Tr) : ∀ n, (succs n t).cnt = n + t.cnt
  | 0 => by simp [succs]
  | n + 1 => by simp only [succs, Tr.cnt, succs_cnt t n]; omega
set_option maxRecDepth 20000 in
set_option maxHeartbeats 1000000 in
theorem l1Many_any (t : Tr) (p n : Nat) (w : World) (ht : TreeAt w.heap.size w p t) (hn : n ≤ 64) :
    Calls Try.prog 133 #[.pointer (some ⟨p, 0, none⟩), .int .i64 (n : Int)] w fun e w' => ∃ g, e = .returned (.pointer (some ⟨g, 0, none⟩)) ∧ TreeAt w'.heap.size w' g (succs n t) ∧ Below w.heap.size w w' := by
  have HT := hide ht
  clear ht
  go_enter Try.func133, Try.ntmps133
  go_wp2_with fail
  go_loopw [0, 5] (fun l i wr => ∃ (j g : Nat), j ≤ n ∧ i = .int .i64 j ∧ l = .pointer (some ⟨g, 0, none⟩) ∧ Hid (TreeAt wr.heap.size wr g (succs j t)) ∧ Below w.heap.size w wr) (fun _ i _ => n - (intOf i).toNat)
  case atStart => exact ⟨0, p, by omega, rfl, rfl, HT.out, Below.refl _ _⟩
  case round =>
    obtain ⟨j, g, hj, rfl, rfl, HTR, hbel⟩ := hrel
    by_cases hlt : j < n
    · have d1 : decide ((j : Int) < (n : Int)) = true := by simp; omega
      have d2 : decide ((j : Int) ≤ 64) = true := by simp; omega
      go_wp2_with (go_at_call 130; refine (l1Succ_any _ g _ HTR.out).mono ?_; rintro e w3 ⟨rfl, ht3, hb3⟩)
      go_roundw
      case rel => exact ⟨j + 1, _, by omega, by go_num, rfl, ht3, hbel.trans (hb3.mono hbel.size)⟩
      case measure => simp [intOf]; omega
    · have d1 : decide ((j : Int) < (n : Int)) = false := by simp; omega
      have hje : j = n := by omega
      have HTN : Hid (TreeAt wr.heap.size wr g (succs n t)) := by have := HTR.out; rwa [hje] at this
      clear hje
      go_wp2_with fail
      go_ret
      exact ⟨g, rfl, HTN.out, hbel⟩

theorem OwnI.base {base : Nat} {w : World} {g cap : Nat} {st : List Int} (h : OwnI (base + 1) w g cap st) : OwnI base w g cap st := by
  obtain ⟨h1, h2⟩ := h
  rcases h2 with ⟨h', _⟩ | ⟨g', cap', cur, h', h3, h4⟩
  · simp at h'
  · exact ⟨h1, .inr ⟨g', cap', cur, h', by omega, h4⟩⟩
theorem Try.results39 : Try.f39.results = #[.tmp 2, .tmp 3] := by kernel_rfl
def names11 : List ByteArray := [⟨#[117]⟩, ⟨#[118]⟩, ⟨#[119]⟩, ⟨#[97]⟩, ⟨#[98]⟩, ⟨#[99]⟩, ⟨#[100]⟩, ⟨#[101]⟩, ⟨#[102]⟩, ⟨#[103]⟩, ⟨#[104]⟩]
set_option maxRecDepth 20000 in
set_option maxHeartbeats 2000000 in
theorem lwValues_any (a : Option Addr) (n cap : Nat) (w : World) (h : CodeAt w a n) (hn : n ≤ cap) (hc : n ≤ 1048576) :
    Calls Try.prog 39 #[.slice a n cap] w fun e w' => ∃ g gv cv vs, e = .returned (.tuple #[.slice (some ⟨g, 0, none⟩) 11 11, .slice (some ⟨gv, 0, none⟩) vs.length cv]) ∧ vs.length = 11 ∧ (∀ x ∈ vs, 0 ≤ x ∧ x < 5) ∧ (∀ j (hj : j < names11.length), w'.cell? ⟨g, j, none⟩ = some (.string names11[j])) ∧ OwnI w.heap.size w' gv cv vs ∧ Below w.heap.size w w' := by
  obtain ⟨i3, hi3, hz3, hs3, hb3⟩ := info_parts Try.info3
  have H := hide h
  clear h
  obtain ⟨W0, hW0⟩ : ∃ W0, W0 = w.alloc (.cells #[.string ⟨#[117]⟩, .string ⟨#[118]⟩, .string ⟨#[119]⟩, .string ⟨#[97]⟩, .string ⟨#[98]⟩, .string ⟨#[99]⟩, .string ⟨#[100]⟩, .string ⟨#[101]⟩, .string ⟨#[102]⟩, .string ⟨#[103]⟩, .string ⟨#[104]⟩] 9) := ⟨_, rfl⟩
  have hr := World.ownsRow_lit (base := w.heap.size + 1) (e := 3) (size := 1) W0 #[] 0 (by rw [hW0]; simp) (by unfold maxLen; omega) rfl
  have hc0 : ∀ j (hj : j < names11.length), W0.cell? ⟨w.heap.size, j, none⟩ = some (.string names11[j]) := by
    intro j hj
    rw [hW0, cell_of_row _ _ _ _ _ _ (heap_alloc_new w _)]
    match j, hj with
    | 0, _ => rfl
    | 1, _ => rfl
    | 2, _ => rfl
    | 3, _ => rfl
    | 4, _ => rfl
    | 5, _ => rfl
    | 6, _ => rfl
    | 7, _ => rfl
    | 8, _ => rfl
    | 9, _ => rfl
    | 10, _ => rfl
  have HC0 := hide (fun j hj => keep_cell (bel_alloc (Below.refl _ _) (.cells #[] 3)) (hc0 j hj))
  have HB0 := hide (show Below w.heap.size w (W0.alloc (.cells #[] 3)) by rw [hW0]; exact bel_alloc (bel_alloc (Below.refl _ _) _) _)
  have hsW : W0.heap.size = w.heap.size + 1 := by rw [hW0]; simp
  have HR := hide (show OwnI (w.heap.size + 1) (W0.alloc (.cells #[] 3)) (w.heap.size + 1) 0 [] by have := hr; rw [hsW] at this; exact this)
  rw [hW0] at HC0 HB0 HR
  clear hr hc0 hW0 hsW
  rcases Nat.eq_zero_or_pos n with h0 | h0
  · subst h0
    go_enter Try.func39, Try.ntmps39
    go_wp2_with fail
    go_loopw [5, 6] (fun o i wr => ∃ (j g cv : Nat) (vs : List Int), j ≤ 11 ∧ i = .int .i64 j ∧ Hid (vs.length = j) ∧ o = .slice (some ⟨g, 0, none⟩) vs.length cv ∧ Hid (∀ x ∈ vs, 0 ≤ x ∧ x < 5) ∧ Hid (OwnI (w.heap.size + 1) wr g cv vs) ∧ Hid (∀ j (hj : j < names11.length), wr.cell? ⟨w.heap.size, j, none⟩ = some (.string names11[j])) ∧ Hid (Below w.heap.size w wr)) (fun _ i _ => 11 - (intOf i).toNat)
    case atStart => exact ⟨0, _, _, [], by omega, rfl, rfl, rfl, by simp [Hid], HR.out, HC0.out, HB0.out⟩
    case round =>
      obtain ⟨j, g, cv, vs, hj, rfl, HVL, rfl, HV, HO, HC, HB⟩ := hrel
      have hv11 : vs.length ≤ 11 := by have := HVL.out; omega
      clear HR HC0 HB0
      have hgl := HO.out.lt
      have hbs := HB.out.size
      by_cases hlt : j < 11
      · have hlt' : (j : Int) < 11 := by omega
        by_cases hjn : j < 0
        · omega
        · have d1 : ¬ (j : Int) < 0 := by omega
          go_wp2_with (first
            | (at_builtin
               refine wpList_append_lies _ rfl _ _ 35 rfl (w.heap.size + 1) 3 i3 (.int .i64 0) 1 8 Try.underlying35 hi3 hz3 hs3 hb3 rfl (by omega) (.slice (some ⟨g, 0, none⟩) vs.length cv) vs.length (vs.map (Value.int .i64)) rfl ((show wr.ownsRow _ _ _ _ _ _ from HO.out).alloc _) ⟨wr.heap.size, 0, none⟩ 1 1 [.int .i64 (0 : Int)] rfl rfl (cell_one_new _ _ _) (by intro u hu; simp at hu; subst hu; rfl) (by omega) (by unfold maxLen; omega) (by omega) (by simp; omega) (wr.heap.size + 1) (by simp) ?_
               intro g4 cap4 w4 hown4 hgrow4 hat4 hlt4)
            | fail)
          have HON := hide (show OwnI (w.heap.size + 1) w4 g4 cap4 (vs ++ [(0 : Int)]) by unfold OwnI; rw [List.length_append, List.map_append]; exact hown4)
          have HCN := hide (fun q (hq : q < names11.length) => (hgrow4.cell_far ⟨w.heap.size, q, none⟩ (by show w.heap.size < _; simp; omega) (by simp [Value.ownBlock]; omega)).trans (keep_cell (bel_alloc (Below.refl _ _) _) (HC.out q hq)))
          have HBN := hide ((HB.out.alloc (by omega) (.cells #[.int .i64 (0 : Int)] 3)).grown hgrow4 (by simp; omega) (fun q hq => by simp [Value.ownBlock] at hq; omega))
          have HVN : Hid (∀ x ∈ vs ++ [(0 : Int)], 0 ≤ x ∧ x < 5) := by
            intro x hx
            rcases List.mem_append.1 hx with h | h
            · exact HV.out x h
            · simp at h; omega
          have HLN : Hid ((vs ++ [(0 : Int)]).length = vs.length + 1) := by show _ = _; simp
          clear hown4 hgrow4 hat4 hlt4
          go_wp2_with fail
          go_roundw
          case rel => exact ⟨j + 1, g4, cap4, vs ++ [(0 : Int)], by omega, by go_num, by show _ = _; rw [HLN.out, HVL.out], by rw [HLN.out], HVN, HON, HCN, HBN⟩
          case measure => simp [intOf]; omega
      · have hlt' : ¬ (j : Int) < 11 := by omega
        have hje : vs.length = 11 := by have := HVL.out; omega
        have HJE := hide hje
        clear hje
        go_wp2_with fail
        refine bodyPost_ret (results_tmp2 Try.results39 _ _ _) rfl ?_
        exact ⟨w.heap.size, g, cv, vs, rfl, HJE.out, HV.out, HC.out, OwnI.base HO.out, HB.out⟩
  · obtain ⟨b, off, rfl, hq⟩ := H.out h0
    go_enter Try.func39, Try.ntmps39
    go_wp2_with fail
    go_loopw [5, 6] (fun o i wr => ∃ (j g cv : Nat) (vs : List Int), j ≤ 11 ∧ i = .int .i64 j ∧ Hid (vs.length = j) ∧ o = .slice (some ⟨g, 0, none⟩) vs.length cv ∧ Hid (∀ x ∈ vs, 0 ≤ x ∧ x < 5) ∧ Hid (OwnI (w.heap.size + 1) wr g cv vs) ∧ Hid (∀ j (hj : j < names11.length), wr.cell? ⟨w.heap.size, j, none⟩ = some (.string names11[j])) ∧ Hid (Below w.heap.size w wr)) (fun _ i _ => 11 - (intOf i).toNat)
    case atStart => exact ⟨0, _, _, [], by omega, rfl, rfl, rfl, by simp [Hid], HR.out, HC0.out, HB0.out⟩
    case round =>
      obtain ⟨j, g, cv, vs, hj, rfl, HVL, rfl, HV, HO, HC, HB⟩ := hrel
      have hv11 : vs.length ≤ 11 := by have := HVL.out; omega
      clear HR HC0 HB0
      have hgl := HO.out.lt
      have hbs := HB.out.size
      by_cases hlt : j < 11
      · have hlt' : (j : Int) < 11 := by omega
        by_cases hjn : j < n
        · have d1 : decide ((j : Int) < (n : Int)) = true := by simp; omega
          obtain ⟨ix, hix, hixn⟩ : ∃ ix : Nat, (n : Int) - 1 - (j : Int) = (ix : Int) ∧ ix < n := ⟨n - 1 - j, by omega, by omega⟩
          obtain ⟨q, cq, q0, q1⟩ := hq ix hixn
          have cq := keep_cell HB.out cq
          have hw1 : IntKind.i64.wrap ((n : Int) - 1) = (n : Int) - 1 := by rw [IntKind.wrap_i64]; omega
          have hwx : IntKind.i64.wrap (ix : Int) = (ix : Int) := by rw [IntKind.wrap_i64]; omega
          have hixn' : (ix : Int) < (n : Int) := by omega
          have hwq : IntKind.i64.wrap q = q := by rw [IntKind.wrap_i64]; omega
          obtain ⟨r, hr, hrl⟩ := tmod_nat (m := 5) q0 (by omega)
          have hr' : q.tmod 5 = (r : Int) := hr
          have hwr : IntKind.i64.wrap (r : Int) = (r : Int) := by rw [IntKind.wrap_i64]; omega
          go_wp2_with (first
            | (at_builtin
               refine wpList_append_lies _ rfl _ _ 35 rfl (w.heap.size + 1) 3 i3 (.int .i64 0) 1 8 Try.underlying35 hi3 hz3 hs3 hb3 rfl (by omega) (.slice (some ⟨g, 0, none⟩) vs.length cv) vs.length (vs.map (Value.int .i64)) rfl ((show wr.ownsRow _ _ _ _ _ _ from HO.out).alloc _) ⟨wr.heap.size, 0, none⟩ 1 1 [.int .i64 (r : Int)] rfl rfl (cell_one_new _ _ _) (by intro u hu; simp at hu; subst hu; rfl) (by omega) (by unfold maxLen; omega) (by omega) (by simp; omega) (wr.heap.size + 1) (by simp) ?_
               intro g4 cap4 w4 hown4 hgrow4 hat4 hlt4)
            | fail)
          have HON := hide (show OwnI (w.heap.size + 1) w4 g4 cap4 (vs ++ [(r : Int)]) by unfold OwnI; rw [List.length_append, List.map_append]; exact hown4)
          have HCN := hide (fun q (hq : q < names11.length) => (hgrow4.cell_far ⟨w.heap.size, q, none⟩ (by show w.heap.size < _; simp; omega) (by simp [Value.ownBlock]; omega)).trans (keep_cell (bel_alloc (Below.refl _ _) _) (HC.out q hq)))
          have HBN := hide ((HB.out.alloc (by omega) (.cells #[.int .i64 (r : Int)] 3)).grown hgrow4 (by simp; omega) (fun q hq => by simp [Value.ownBlock] at hq; omega))
          have HVN : Hid (∀ x ∈ vs ++ [(r : Int)], 0 ≤ x ∧ x < 5) := by
            intro x hx
            rcases List.mem_append.1 hx with h | h
            · exact HV.out x h
            · simp at h; omega
          have HLN : Hid ((vs ++ [(r : Int)]).length = vs.length + 1) := by show _ = _; simp
          clear hown4 hgrow4 hat4 hlt4
          go_wp2_with fail
          go_roundw
          case rel => exact ⟨j + 1, g4, cap4, vs ++ [(r : Int)], by omega, by go_num, by show _ = _; rw [HLN.out, HVL.out], by rw [HLN.out], HVN, HON, HCN, HBN⟩
          case measure => simp [intOf]; omega
        · have d1 : decide ((j : Int) < (n : Int)) = false := by simp; omega
          go_wp2_with (first
            | (at_builtin
               refine wpList_append_lies _ rfl _ _ 35 rfl (w.heap.size + 1) 3 i3 (.int .i64 0) 1 8 Try.underlying35 hi3 hz3 hs3 hb3 rfl (by omega) (.slice (some ⟨g, 0, none⟩) vs.length cv) vs.length (vs.map (Value.int .i64)) rfl ((show wr.ownsRow _ _ _ _ _ _ from HO.out).alloc _) ⟨wr.heap.size, 0, none⟩ 1 1 [.int .i64 (0 : Int)] rfl rfl (cell_one_new _ _ _) (by intro u hu; simp at hu; subst hu; rfl) (by omega) (by unfold maxLen; omega) (by omega) (by simp; omega) (wr.heap.size + 1) (by simp) ?_
               intro g4 cap4 w4 hown4 hgrow4 hat4 hlt4)
            | fail)
          have HON := hide (show OwnI (w.heap.size + 1) w4 g4 cap4 (vs ++ [(0 : Int)]) by unfold OwnI; rw [List.length_append, List.map_append]; exact hown4)
          have HCN := hide (fun q (hq : q < names11.length) => (hgrow4.cell_far ⟨w.heap.size, q, none⟩ (by show w.heap.size < _; simp; omega) (by simp [Value.ownBlock]; omega)).trans (keep_cell (bel_alloc (Below.refl _ _) _) (HC.out q hq)))
          have HBN := hide ((HB.out.alloc (by omega) (.cells #[.int .i64 (0 : Int)] 3)).grown hgrow4 (by simp; omega) (fun q hq => by simp [Value.ownBlock] at hq; omega))
          have HVN : Hid (∀ x ∈ vs ++ [(0 : Int)], 0 ≤ x ∧ x < 5) := by
            intro x hx
            rcases List.mem_append.1 hx with h | h
            · exact HV.out x h
            · simp at h; omega
          have HLN : Hid ((vs ++ [(0 : Int)]).length = vs.length + 1) := by show _ = _; simp
          clear hown4 hgrow4 hat4 hlt4
          go_wp2_with fail
          go_roundw
          case rel => exact ⟨j + 1, g4, cap4, vs ++ [(0 : Int)], by omega, by go_num, by show _ = _; rw [HLN.out, HVL.out], by rw [HLN.out], HVN, HON, HCN, HBN⟩
          case measure => simp [intOf]; omega
      · have hlt' : ¬ (j : Int) < 11 := by omega
        have hje : vs.length = 11 := by have := HVL.out; omega
        have HJE := hide hje
        clear hje
        go_wp2_with fail
        refine bodyPost_ret (results_tmp2 Try.results39 _ _ _) rfl ?_
        exact ⟨w.heap.size, g, cv, vs, rfl, HJE.out, HV.out, HC.out, OwnI.base HO.out, HB.out⟩
end Go.Proofs.Ytnifepmaijfllaa
