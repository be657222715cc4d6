/- Whether a level, or one of several, has a parameter: what slices.ContainsFunc answers at levelHasParam. -/
import Derived.Test.YtlhhdhmhncjilaaGreatTMem
import Derived.Test.YtlhhdhmhncjilaaGreatFew
namespace Go.Proofs.YtlhhdhmhncjilaaGreat
open Go.ChangeShapes Go.WideShapes Go.ChangeAt Go.RowKit

def parN (ns : List Nd) : Bool := ns.any (fun nd => nd.k == 5)
def parL (ls : List (List Nd)) : Bool := ls.any parN
theorem any_take {α : Type} (f : α → Bool) (l : List α) (j : Nat) (h : j < l.length) (h1 : (l.take j).any f = false) : (l.take (j + 1)).any f = f l[j] := by
  rw [List.take_succ_eq_append_getElem h, List.any_append, h1]; simp
theorem any_of {α : Type} (f : α → Bool) (l : List α) (j : Nat) (h : j < l.length) (h1 : f l[j] = true) : l.any f = true := List.any_eq_true.2 ⟨l[j], List.getElem_mem h, h1⟩

set_option maxHeartbeats 1000000 in
theorem par1_any (nd : Nd) (kv : Value) (w : World) (hk : ∃ a n c, kv = .slice a n c) : Calls Tryz.prog 86 #[.agg #[.int .i64 nd.k, .string nd.s, kv]] w fun e w' => e = .returned (.bool (nd.k == 5)) ∧ Below w.heap.size w w' := by
  obtain ⟨a, n, c, rfl⟩ := hk
  have HB := hide (bel_alloc (Below.refl w.heap.size w) (.cells #[.int .i64 nd.k, .string nd.s, .slice a n c] 103))
  go_enter Tryz.func86, Tryz.ntmps86
  go_wp2_with fail
  go_ret
  exact ⟨rfl, HB.out⟩
set_option maxHeartbeats 2000000 in
theorem idxN_any (v : Value) (ns : List Nd) (w : World) (hv : NodesAt w v ns) (hl : ns.length ≤ 1048576) :
    Calls Tryz.prog 97 #[v, .func (.func 86) #[] #[]] w fun e w' => (∃ r : Int, e = .returned (.int .i64 r) ∧ decide (0 ≤ r) = parN ns) ∧ Below w.heap.size w w' := by
  obtain ⟨a, cap, rfl, hlc, hcm, hc⟩ := hv
  have HC := hide hc
  unfold maxLen at hcm
  clear hc
  go_enter Tryz.func97, Tryz.ntmps97
  go_wp2_with fail
  go_loopw [8] (fun i wr => ∃ (j : Nat), j ≤ ns.length ∧ i = .int .i64 j ∧ Hid ((ns.take j).any (fun nd => nd.k == 5) = false) ∧ Hid (Below w.heap.size w wr)) (fun i _ => ns.length - (intOf i).toNat)
  case atStart => exact ⟨0, by omega, rfl, by show _ = _; simp, Below.refl _ _⟩
  case round =>
    obtain ⟨j, hj, rfl, HN, HB⟩ := hrel
    by_cases hlt : j < ns.length
    · have hlt' : (j : Int) < ns.length := by omega
      obtain ⟨b, off, rfl, hcell⟩ := HC.out (by omega)
      obtain ⟨d1, d2, kv, d3, hkv⟩ := hcell j hlt
      have d1 := keep_cell HB.out d1
      have d2 := keep_cell HB.out d2
      have d3 := keep_cell HB.out d3
      have HT := hide (any_take (fun nd => nd.k == 5) ns j hlt HN.out)
      have HO := hide (any_of (fun nd => nd.k == 5) ns j hlt)
      obtain ⟨ka, kc, rfl, _, _, _⟩ := hkv
      have HP := hide (par1_any ns[j] (.slice ka ns[j].kids.length kc) wr ⟨_, _, _, rfl⟩)
      have HQ := hide (show j + 1 ≤ ns.length from hlt)
      clear hcell
      generalize ns[j] = nd at *
      cases hk : (nd.k == 5)
      · rw [hk] at HP
        have HT2 : Hid ((ns.take (j + 1)).any (fun nd => nd.k == 5) = false) := by show _ = _; rw [HT.out]; exact hk
        go_wp2_with fail
        refine HP.out.mono ?_
        rintro e w1 ⟨rfl, hb1⟩
        have HB1 := hide (bel_trans HB.out hb1)
        clear hb1
        go_wp2_with fail
        go_roundw
        case rel => exact ⟨j + 1, HQ.out, by go_num, HT2, HB1⟩
        case measure => have := HQ.out; simp [intOf]; omega
      · rw [hk] at HP
        have HR : Hid (parN ns = true) := HO.out hk
        go_wp2_with fail
        refine HP.out.mono ?_
        rintro e w1 ⟨rfl, hb1⟩
        have HB1 := hide (bel_trans HB.out hb1)
        clear hb1
        go_wp2_with fail
        go_ret
        exact ⟨⟨_, rfl, by rw [HR.out]; simp⟩, HB1.out⟩
    · have hlt' : ¬ (j : Int) < ns.length := by omega
      have HR : Hid (parN ns = false) := by have h := HN.out; rw [List.take_of_length_le (by omega)] at h; exact h
      go_wp2_with fail
      go_ret
      exact ⟨⟨_, rfl, by rw [HR.out]; decide⟩, HB.out⟩
set_option maxHeartbeats 1000000 in
theorem conN_any (v : Value) (ns : List Nd) (w : World) (hv : NodesAt w v ns) (hl : ns.length ≤ 1048576) :
    Calls Tryz.prog 85 #[v, .func (.func 86) #[] #[]] w fun e w' => e = .returned (.bool (parN ns)) ∧ Below w.heap.size w w' := by
  have HI := hide (idxN_any v ns w hv hl)
  obtain ⟨a, cap, rfl, _, _, _⟩ := hv
  go_enter Tryz.func85, Tryz.ntmps85
  go_wp2_with fail
  refine HI.out.mono ?_
  rintro e w1 ⟨⟨r, rfl, hr⟩, hb1⟩
  have HR := hide hr
  clear hr
  go_wp2_with fail
  go_ret
  exact ⟨by rw [HR.out]; rfl, hb1⟩
set_option maxHeartbeats 1000000 in
theorem levPar_any (v : Value) (ns : List Nd) (w : World) (hv : NodesAt w v ns) (hl : ns.length ≤ 1048576) :
    Calls Tryz.prog 71 #[.agg #[v]] w fun e w' => e = .returned (.bool (parN ns)) ∧ Below w.heap.size w w' := by
  have HB := hide (bel_alloc (Below.refl w.heap.size w) (.cells #[v] 101))
  have HI := hide (conN_any v ns (w.alloc (.cells #[v] 101)) (hv.keep HB.out) hl)
  obtain ⟨a, cap, rfl, _, _, _⟩ := hv
  go_enter Tryz.func71, Tryz.ntmps71
  go_wp2_with fail
  refine HI.out.mono ?_
  rintro e w1 ⟨rfl, hb1⟩
  have HB1 := hide (bel_trans HB.out hb1)
  clear hb1
  go_wp2_with fail
  go_ret
  exact ⟨rfl, HB1.out⟩
set_option maxHeartbeats 2000000 in
theorem idxL_any (v : Value) (ls : List (List Nd)) (w : World) (hv : LevsAt w v ls) (hl : ls.length ≤ 1048576) (hll : ∀ l ∈ ls, l.length ≤ 1048576) :
    Calls Tryz.prog 84 #[v, .func (.func 71) #[] #[]] w fun e w' => (∃ r : Int, e = .returned (.int .i64 r) ∧ decide (0 ≤ r) = parL ls) ∧ Below w.heap.size w w' := by
  obtain ⟨a, cap, rfl, hlc, hcm, hc⟩ := hv
  have HC := hide hc
  have HLL := hide hll
  unfold maxLen at hcm
  clear hc hll
  go_enter Tryz.func84, Tryz.ntmps84
  go_wp2_with fail
  go_loopw [8] (fun i wr => ∃ (j : Nat), j ≤ ls.length ∧ i = .int .i64 j ∧ Hid ((ls.take j).any parN = false) ∧ Hid (Below w.heap.size w wr)) (fun i _ => ls.length - (intOf i).toNat)
  case atStart => exact ⟨0, by omega, rfl, by show _ = _; simp, Below.refl _ _⟩
  case round =>
    obtain ⟨j, hj, rfl, HN, HB⟩ := hrel
    by_cases hlt : j < ls.length
    · have hlt' : (j : Int) < ls.length := by omega
      obtain ⟨b, off, rfl, hcell⟩ := HC.out (by omega)
      obtain ⟨u, d1, hu⟩ := hcell j hlt
      have d1 := keep_cell HB.out d1
      have HT := hide (any_take parN ls j hlt HN.out)
      have HO := hide (any_of parN ls j hlt)
      have HP := hide (levPar_any u ls[j] wr (hu.keep HB.out) (HLL.out _ (List.getElem_mem hlt)))
      obtain ⟨ka, kc, rfl, _, _, _⟩ := hu
      have HQ := hide (show j + 1 ≤ ls.length from hlt)
      clear hcell
      generalize ls[j] = l at *
      cases hk : parN l
      · rw [hk] at HP
        have HT2 : Hid ((ls.take (j + 1)).any parN = false) := by show _ = _; rw [HT.out]; exact hk
        go_wp2_with fail
        refine HP.out.mono ?_
        rintro e w1 ⟨rfl, hb1⟩
        have HB1 := hide (bel_trans HB.out hb1)
        clear hb1
        go_wp2_with fail
        go_roundw
        case rel => exact ⟨j + 1, HQ.out, by go_num, HT2, HB1⟩
        case measure => have := HQ.out; simp [intOf]; omega
      · rw [hk] at HP
        have HR : Hid (parL ls = true) := HO.out hk
        go_wp2_with fail
        refine HP.out.mono ?_
        rintro e w1 ⟨rfl, hb1⟩
        have HB1 := hide (bel_trans HB.out hb1)
        clear hb1
        go_wp2_with fail
        go_ret
        exact ⟨⟨_, rfl, by rw [HR.out]; simp⟩, HB1.out⟩
    · have hlt' : ¬ (j : Int) < ls.length := by omega
      have HR : Hid (parL ls = false) := by have h := HN.out; rw [List.take_of_length_le (by omega)] at h; exact h
      go_wp2_with fail
      go_ret
      exact ⟨⟨_, rfl, by rw [HR.out]; decide⟩, HB.out⟩
set_option maxHeartbeats 1000000 in
theorem conL_any (v : Value) (ls : List (List Nd)) (w : World) (hv : LevsAt w v ls) (hl : ls.length ≤ 1048576) (hll : ∀ l ∈ ls, l.length ≤ 1048576) :
    Calls Tryz.prog 70 #[v, .func (.func 71) #[] #[]] w fun e w' => e = .returned (.bool (parL ls)) ∧ Below w.heap.size w w' := by
  have HI := hide (idxL_any v ls w hv hl hll)
  obtain ⟨a, cap, rfl, _, _, _⟩ := hv
  go_enter Tryz.func70, Tryz.ntmps70
  go_wp2_with fail
  refine HI.out.mono ?_
  rintro e w1 ⟨⟨r, rfl, hr⟩, hb1⟩
  have HR := hide hr
  clear hr
  go_wp2_with fail
  go_ret
  exact ⟨by rw [HR.out]; rfl, hb1⟩
end Go.Proofs.YtlhhdhmhncjilaaGreat
