/- What the program's joinKids answers: the roots with the new node among them, or false; the row of roots alone is written. -/
import Derived.Test.YtlhhdhmhncjilaaGreatFew
import Derived.Deep.AppendLies
namespace Go.Proofs.YtlhhdhmhncjilaaGreat
open Go.ChangeShapes Go.WideShapes Go.ChangeAt Go.RowKit

theorem Tryz.results45 : Tryz.f45.results = #[.tmp 8, .tmp 9] := by kernel_rfl
/-- A row of numbers of the call's own. -/
def OwnI (base : Nat) (w : World) (g cap : Nat) (st : List Int) : Prop := w.ownsRow base 3 1 (.slice (some ⟨g, 0, none⟩) st.length cap) st.length (st.map (Value.int .i64))
theorem OwnI.cap {base : Nat} {w : World} {g cap : Nat} {st : List Int} (h : OwnI base w g cap st) : st.length ≤ cap ∧ cap ≤ maxLen := by
  rcases h.2 with ⟨h', _⟩ | ⟨g', cap', cur, h', hb, hg, hnc, hcm, hcs, htake⟩
  · simp at h'
  · simp only [Value.slice.injEq, Option.some.injEq, Addr.mk.injEq, and_true, true_and] at h'
    obtain ⟨rfl, rfl⟩ := h'
    exact ⟨hnc, hcm⟩
theorem OwnI.keep {base : Nat} {w w' : World} {g cap : Nat} {st : List Int} (h : OwnI base w g cap st) (hb : Below w.heap.size w w') : OwnI base w' g cap st := row_keep hb h
theorem ownsRow_drewN' {w : World} {base : Nat} {e : TypeId} {size : Nat} {v : Value} {n : Nat} {xs : List Value} (h : w.ownsRow base e size v n xs) (m : Nat) : (w.drewN m).ownsRow base e size v n xs := h
/-- A part of it from a place on, as it is sliced. -/
theorem OwnI.drop {base : Nat} {w : World} {g cap : Nat} {st : List Int} (h : OwnI base w g cap st) (lo : Nat) (hlo : lo ≤ st.length) :
    ∃ a, sliced (some ⟨g, 0, none⟩) lo st.length cap 1 = .slice a (st.length - lo) (cap - lo) ∧ IntsAt w (.slice a (st.length - lo) (cap - lo)) (st.drop lo) := by
  have hcap := h.cap
  have hl : (st.drop lo).length = st.length - lo := by simp
  refine ⟨_, rfl, _, cap - lo, by rw [hl], by omega, by omega, fun h0 => ?_⟩
  have hne : ¬ cap = lo := by omega
  refine ⟨g, lo, by simp [hne, Addr.add]; intro h; omega, fun j hj => ?_⟩
  rw [World.ownsRow.cellAt h (lo + j) (by omega)]
  simp
theorem OwnI.take {base : Nat} {w : World} {g cap : Nat} {st : List Int} (h : OwnI base w g cap st) (lo : Nat) (hlo : lo ≤ st.length) : w.ownsRow base 3 1 (.slice (some ⟨g, 0, none⟩) lo cap) lo ((st.take lo).map (Value.int .i64)) := by
  obtain ⟨h1, h2⟩ := h
  rcases h2 with ⟨h', _⟩ | ⟨g', cap', cur, h', hb, hg, hnc, hcm, hcs, htake⟩
  · simp at h'
  · simp only [Value.slice.injEq, Option.some.injEq, Addr.mk.injEq, and_true, true_and] at h'
    obtain ⟨rfl, rfl⟩ := h'
    refine ⟨by simp; omega, .inr ⟨g, cap, cur, rfl, hb, hg, by omega, hcm, hcs, ?_⟩⟩
    rw [List.map_take, ← htake, List.take_take]; congr 1; omega
theorem OwnI.lt {base : Nat} {w : World} {g cap : Nat} {st : List Int} (h : OwnI base w g cap st) : base ≤ g ∧ g < w.heap.size := World.ownsRow.lt h g rfl

set_option maxHeartbeats 1000000 in
theorem joinKids_bad (st ks : List Int) (base g cap : Nat) (i c : Int) (kv : Value) (w : World) (hown : OwnI base w g cap st) (hk : IntsAt w kv ks) (hc1 : -1 ≤ c) (hc3 : c ≤ 3) (hst : st.length ≤ 1048576)
    (hbad : c < 0 ∨ (st.length : Int) < c ∨ ks ≠ st.drop (st.length - c.toNat)) :
    Calls Tryz.prog 45 #[.slice (some ⟨g, 0, none⟩) st.length cap, .int .i64 i, kv, .int .i64 c] w fun e w' => e = .returned (.tuple #[.slice none 0 0, .bool false]) ∧ ∃ n, w' = w.drewN n := by
  have HK := hide hk
  obtain ⟨ka, kc, rfl, _, _, _⟩ := hk
  have hw1 : IntKind.i64.wrap ((st.length : Int) - c) = (st.length : Int) - c := by rw [IntKind.wrap_i64]; omega
  by_cases h1 : c < 0
  · have d1 : decide (c < 0) = true := by simp [h1]
    clear hbad h1
    go_enter Tryz.func45, Tryz.ntmps45
    go_wp2_with fail
    refine bodyPost_ret (results_tmp2 Tryz.results45 _ _ _) rfl ?_
    exact ⟨rfl, 0, rfl⟩
  have d1 : decide (c < 0) = false := by simp; omega
  by_cases h2 : (st.length : Int) < c
  · have d2 : decide ((st.length : Int) - c < 0) = true := by simp; omega
    clear hbad h1 h2
    go_enter Tryz.func45, Tryz.ntmps45
    go_wp2_with fail
    refine bodyPost_ret (results_tmp2 Tryz.results45 _ _ _) rfl ?_
    exact ⟨rfl, 0, rfl⟩
  have d2 : decide ((st.length : Int) - c < 0) = false := by simp; omega
  obtain ⟨lo, hlo⟩ : ∃ lo : Nat, (st.length : Int) - c = (lo : Int) := ⟨st.length - c.toNat, by omega⟩
  have hlo2 : lo ≤ st.length := by omega
  have HD : Hid (decide (ks = st.drop lo) = false) := by
    show _ = false
    rcases hbad with h | h | h
    · omega
    · omega
    · rw [show st.length - c.toNat = lo from by omega] at h; simp [h]
  obtain ⟨a, ha, hrow⟩ := hown.drop lo hlo2
  have HROW := hide hrow
  have hsl : ∀ W : World, (Instr.slice 62 (.slice (some ⟨g, 0, none⟩) st.length cap) (some (.int .i64 (lo : Int))) none none).run Tryz.prog W = .ok (.slice a (st.length - lo) (cap - lo)) W := fun W => by
    rw [run_slice_l W 62 (some ⟨g, 0, none⟩) st.length cap (by kernel_rfl) .i64 (lo : Int) (by omega) (by omega), ← ha]
    simp [go_sem]
  rw [hlo] at hw1 d2
  clear hbad h1 h2 ha hrow
  go_enter Tryz.func45, Tryz.ntmps45
  go_wp2_with (go_at_call 64; refine (equal_any _ _ ks (st.drop lo) _ HK.out HROW.out).mono ?_; rintro e w3 ⟨rfl, n, rfl⟩; rw [HD.out])
  refine bodyPost_ret (results_tmp2 Tryz.results45 _ _ _) rfl ?_
  exact ⟨rfl, _, rfl⟩

set_option maxHeartbeats 1000000 in
theorem joinKids_good (st ks : List Int) (base g cap lo : Nat) (i c : Int) (kv : Value) (w : World) (hown : OwnI base w g cap st) (hk : IntsAt w kv ks) (hc1 : 0 ≤ c) (hc3 : c ≤ 3) (hst : st.length ≤ 1048576)
    (hlo : (st.length : Int) - c = (lo : Int)) (heq : ks = st.drop lo) :
    Calls Tryz.prog 45 #[.slice (some ⟨g, 0, none⟩) st.length cap, .int .i64 i, kv, .int .i64 c] w fun e w' => ∃ g' cap', e = .returned (.tuple #[.slice (some ⟨g', 0, none⟩) (st.take lo ++ [i]).length cap', .bool true]) ∧ OwnI base w' g' cap' (st.take lo ++ [i]) ∧ Below base w w' ∧ w.grownBy w' (some g) := by
  obtain ⟨i3, hi3, hz3, hs3, hb3⟩ := info_parts Tryz.info3
  have HK := hide hk
  obtain ⟨ka, kc, rfl, _, _, _⟩ := hk
  have hw1 : IntKind.i64.wrap ((st.length : Int) - c) = (st.length : Int) - c := by rw [IntKind.wrap_i64]; omega
  have d1 : decide (c < 0) = false := by simp; omega
  have d2 : decide ((st.length : Int) - c < 0) = false := by simp; omega
  have hlo2 : lo ≤ st.length := by omega
  have HD : Hid (decide (ks = st.drop lo) = true) := by show _ = true; simp [heq]
  obtain ⟨a, ha, hrow⟩ := hown.drop lo hlo2
  have HROW := hide hrow
  obtain ⟨hcap1, hcap2⟩ := hown.cap
  obtain ⟨hlt1, hlt2⟩ := hown.lt
  have hsl : ∀ W : World, (Instr.slice 62 (.slice (some ⟨g, 0, none⟩) st.length cap) (some (.int .i64 (lo : Int))) none none).run Tryz.prog W = .ok (.slice a (st.length - lo) (cap - lo)) W := fun W => by
    rw [run_slice_l W 62 (some ⟨g, 0, none⟩) st.length cap (by kernel_rfl) .i64 (lo : Int) (by omega) (by omega), ← ha]
    simp [go_sem]
  have hsh : ∀ W : World, (Instr.slice 62 (.slice (some ⟨g, 0, none⟩) st.length cap) none (some (.int .i64 (lo : Int))) none).run Tryz.prog W = .ok (.slice (some ⟨g, 0, none⟩) lo cap) W := fun W => by
    rw [run_slice_h W 62 (some ⟨g, 0, none⟩) st.length cap (by kernel_rfl) .i64 (lo : Int) (by omega) (by omega)]
    simp [sliced, go_sem]
  have HT := hide (hown.take lo hlo2)
  have HL : Hid ((st.take lo ++ [i]).length = lo + 1) := by show _ = _; simp; omega
  have hL3 : (lo + 1) * 8 ≤ 140737488355328 := by omega
  rw [hlo] at hw1 d2
  rw [HL.out]
  have HCP := hide hcap2
  clear ha hrow heq hcap2
  go_enter Tryz.func45, Tryz.ntmps45
  go_wp2_with (first
    | (go_at_call 64; refine (equal_any _ _ ks (st.drop lo) _ HK.out HROW.out).mono ?_; rintro e w3 ⟨rfl, n, rfl⟩; rw [HD.out])
    | (at_builtin; refine wpList_append_lies _ rfl _ _ 62 rfl base 3 i3 (.int .i64 0) 1 8 Tryz.underlying62 hi3 hz3 hs3 hb3 rfl (by omega) (.slice (some ⟨g, 0, none⟩) lo cap) lo ((st.take lo).map (Value.int .i64)) rfl ((ownsRow_drewN' HT.out n).alloc _) ⟨w.heap.size, 0, none⟩ 1 1 [.int .i64 i] rfl rfl ?c1 ?c2 (by omega) ?c3 ?c4 ?c5 (w.heap.size + 1) (by simp) ?_))
  case c1 => exact cell_one_new _ _ _
  case c2 => first | rfl | (intro u hu; simp at hu; subst hu; rfl)
  case c3 => unfold maxLen; omega
  case c4 => omega
  case c5 => simp; omega
  intro g4 cap4 w4 hown4 hgrow4 hat4 hlt4
  go_wp2_with fail
  refine bodyPost_ret (results_tmp2 Tryz.results45 _ _ _) rfl ?_
  refine ⟨g4, cap4, rfl, ?_, ?_, ?_⟩
  · unfold OwnI; rw [HL.out, List.map_append, List.map_take]; exact hown4
  · exact ((below_drewN (Below.refl _ _) n).alloc (by show base ≤ w.heap.size; omega) _).grown hgrow4 (by simp; omega) (fun k hk => by simp [Value.ownBlock] at hk; omega)
  · exact (grown_of ((below_drewN (Below.refl _ w) n).alloc (Nat.le_refl _) (.cells #[.int .i64 i] 3))).but _ |>.trans hgrow4
end Go.Proofs.YtlhhdhmhncjilaaGreat
