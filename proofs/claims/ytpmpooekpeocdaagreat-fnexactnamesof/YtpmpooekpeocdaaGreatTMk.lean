/- Whether a level, or one of several, has a parameter: what slices.ContainsFunc answers at levelHasParam. -/
import Derived.Test.YtpmpooekpeocdaaGreatStrs
import Derived.Test.YtpmpooekpeocdaaGreatTQ
import Derived.Test.YtpmpooekpeocdaaGreatStC
namespace Go.Proofs.YtpmpooekpeocdaaGreat
open Go.ChangeShapes Go.WideShapes Go.ChangeAt Go.RowKit

def parN (ns : List Nd) : Bool := ns.any (fun nd => nd.k == 5)
def parL (ls : List (List Nd)) : Bool := ls.any parN
theorem any_take {α : Type} (f : α → Bool) (l : List α) (j : Nat) (h : j < l.length) (h1 : (l.take j).any f = false) : (l.take (j + 1)).any f = f l[j] := by
  rw [List.take_succ_eq_append_getElem h, List.any_append, h1]; simp
theorem any_of {α : Type} (f : α → Bool) (l : List α) (j : Nat) (h : j < l.length) (h1 : f l[j] = true) : l.any f = true := List.any_eq_true.2 ⟨l[j], List.getElem_mem h, h1⟩

set_option maxHeartbeats 1000000 in
theorem par1_any (nd : Nd) (kv : Value) (w : World) (hk : ∃ a n c, kv = .slice a n c) : Calls Tryz.prog 256 #[.agg #[.int .i64 nd.k, .string nd.s, kv]] w fun e w' => e = .returned (.bool (nd.k == 5)) ∧ Below w.heap.size w w' := by
  obtain ⟨a, n, c, rfl⟩ := hk
  have HB := hide (bel_alloc (Below.refl w.heap.size w) (.cells #[.int .i64 nd.k, .string nd.s, .slice a n c] 243))
  go_enter Tryz.func256, Tryz.ntmps256
  go_wp2_with fail
  go_ret
  exact ⟨rfl, HB.out⟩
set_option maxHeartbeats 2000000 in
theorem idxN_any (v : Value) (ns : List Nd) (w : World) (hv : NodesAt w v ns) (hl : ns.length ≤ 1048576) :
    Calls Tryz.prog 268 #[v, .func (.func 256) #[] #[]] w fun e w' => (∃ r : Int, e = .returned (.int .i64 r) ∧ decide (0 ≤ r) = parN ns) ∧ Below w.heap.size w w' := by
  obtain ⟨a, cap, rfl, hlc, hcm, hc⟩ := hv
  have HC := hide hc
  unfold maxLen at hcm
  clear hc
  go_enter Tryz.func268, Tryz.ntmps268
  go_wp2_with fail
  go_loopw [8] (fun i wr => ∃ (j : Nat), j ≤ ns.length ∧ i = .int .i64 j ∧ Hid ((ns.take j).any (fun nd => nd.k == 5) = false) ∧ Hid (Below w.heap.size w wr)) (fun i _ => ns.length - (intOf i).toNat)
  case atStart => exact ⟨0, by omega, rfl, by show _ = _; simp, Below.refl _ _⟩
  case round =>
    obtain ⟨j, hj, rfl, HN, HB⟩ := hrel
    by_cases hlt : j < ns.length
    · have hlt' : (j : Int) < ns.length := by omega
      obtain ⟨b, off, rfl, hcell⟩ := HC.out (by omega)
      obtain ⟨d1, d2, kv, d3, hkv⟩ := hcell j hlt
      have d1 := keep_cell HB.out d1
      have d2 := keep_cell HB.out d2
      have d3 := keep_cell HB.out d3
      have HT := hide (any_take (fun nd => nd.k == 5) ns j hlt HN.out)
      have HO := hide (any_of (fun nd => nd.k == 5) ns j hlt)
      obtain ⟨ka, kc, rfl, _, _, _⟩ := hkv
      have HP := hide (par1_any ns[j] (.slice ka ns[j].kids.length kc) wr ⟨_, _, _, rfl⟩)
      have HQ := hide (show j + 1 ≤ ns.length from hlt)
      clear hcell
      generalize ns[j] = nd at *
      cases hk : (nd.k == 5)
      · rw [hk] at HP
        have HT2 : Hid ((ns.take (j + 1)).any (fun nd => nd.k == 5) = false) := by show _ = _; rw [HT.out]; exact hk
        go_wp2_with fail
        refine HP.out.mono ?_
        rintro e w1 ⟨rfl, hb1⟩
        have HB1 := hide (bel_trans HB.out hb1)
        clear hb1
        go_wp2_with fail
        go_roundw
        case rel => exact ⟨j + 1, HQ.out, by go_num, HT2, HB1⟩
        case measure => have := HQ.out; simp [intOf]; omega
      · rw [hk] at HP
        have HR : Hid (parN ns = true) := HO.out hk
        go_wp2_with fail
        refine HP.out.mono ?_
        rintro e w1 ⟨rfl, hb1⟩
        have HB1 := hide (bel_trans HB.out hb1)
        clear hb1
        go_wp2_with fail
        go_ret
        exact ⟨⟨_, rfl, by rw [HR.out]; simp⟩, HB1.out⟩
    · have hlt' : ¬ (j : Int) < ns.length := by omega
      have HR : Hid (parN ns = false) := by have h := HN.out; rw [List.take_of_length_le (by omega)] at h; exact h
      go_wp2_with fail
      go_ret
      exact ⟨⟨_, rfl, by rw [HR.out]; decide⟩, HB.out⟩
set_option maxHeartbeats 1000000 in
theorem conN_any (v : Value) (ns : List Nd) (w : World) (hv : NodesAt w v ns) (hl : ns.length ≤ 1048576) :
    Calls Tryz.prog 255 #[v, .func (.func 256) #[] #[]] w fun e w' => e = .returned (.bool (parN ns)) ∧ Below w.heap.size w w' := by
  have HI := hide (idxN_any v ns w hv hl)
  obtain ⟨a, cap, rfl, _, _, _⟩ := hv
  go_enter Tryz.func255, Tryz.ntmps255
  go_wp2_with fail
  refine HI.out.mono ?_
  rintro e w1 ⟨⟨r, rfl, hr⟩, hb1⟩
  have HR := hide hr
  clear hr
  go_wp2_with fail
  go_ret
  exact ⟨by rw [HR.out]; rfl, hb1⟩
set_option maxHeartbeats 1000000 in
theorem levPar_any (v : Value) (ns : List Nd) (w : World) (hv : NodesAt w v ns) (hl : ns.length ≤ 1048576) :
    Calls Tryz.prog 220 #[.agg #[v]] w fun e w' => e = .returned (.bool (parN ns)) ∧ Below w.heap.size w w' := by
  have HB := hide (bel_alloc (Below.refl w.heap.size w) (.cells #[v] 200))
  have HI := hide (conN_any v ns (w.alloc (.cells #[v] 200)) (hv.keep HB.out) hl)
  obtain ⟨a, cap, rfl, _, _, _⟩ := hv
  go_enter Tryz.func220, Tryz.ntmps220
  go_wp2_with fail
  refine HI.out.mono ?_
  rintro e w1 ⟨rfl, hb1⟩
  have HB1 := hide (bel_trans HB.out hb1)
  clear hb1
  go_wp2_with fail
  go_ret
  exact ⟨rfl, HB1.out⟩
set_option maxHeartbeats 2000000 in
theorem idxL_any (v : Value) (ls : List (List Nd)) (w : World) (hv : LevsAt w v ls) (hl : ls.length ≤ 1048576) (hll : ∀ l ∈ ls, l.length ≤ 1048576) :
    Calls Tryz.prog 254 #[v, .func (.func 220) #[] #[]] w fun e w' => (∃ r : Int, e = .returned (.int .i64 r) ∧ decide (0 ≤ r) = parL ls) ∧ Below w.heap.size w w' := by
  obtain ⟨a, cap, rfl, hlc, hcm, hc⟩ := hv
  have HC := hide hc
  have HLL := hide hll
  unfold maxLen at hcm
  clear hc hll
  go_enter Tryz.func254, Tryz.ntmps254
  go_wp2_with fail
  go_loopw [8] (fun i wr => ∃ (j : Nat), j ≤ ls.length ∧ i = .int .i64 j ∧ Hid ((ls.take j).any parN = false) ∧ Hid (Below w.heap.size w wr)) (fun i _ => ls.length - (intOf i).toNat)
  case atStart => exact ⟨0, by omega, rfl, by show _ = _; simp, Below.refl _ _⟩
  case round =>
    obtain ⟨j, hj, rfl, HN, HB⟩ := hrel
    by_cases hlt : j < ls.length
    · have hlt' : (j : Int) < ls.length := by omega
      obtain ⟨b, off, rfl, hcell⟩ := HC.out (by omega)
      obtain ⟨u, d1, hu⟩ := hcell j hlt
      have d1 := keep_cell HB.out d1
      have HT := hide (any_take parN ls j hlt HN.out)
      have HO := hide (any_of parN ls j hlt)
      have HP := hide (levPar_any u ls[j] wr (hu.keep HB.out) (HLL.out _ (List.getElem_mem hlt)))
      obtain ⟨ka, kc, rfl, _, _, _⟩ := hu
      have HQ := hide (show j + 1 ≤ ls.length from hlt)
      clear hcell
      generalize ls[j] = l at *
      cases hk : parN l
      · rw [hk] at HP
        have HT2 : Hid ((ls.take (j + 1)).any parN = false) := by show _ = _; rw [HT.out]; exact hk
        go_wp2_with fail
        refine HP.out.mono ?_
        rintro e w1 ⟨rfl, hb1⟩
        have HB1 := hide (bel_trans HB.out hb1)
        clear hb1
        go_wp2_with fail
        go_roundw
        case rel => exact ⟨j + 1, HQ.out, by go_num, HT2, HB1⟩
        case measure => have := HQ.out; simp [intOf]; omega
      · rw [hk] at HP
        have HR : Hid (parL ls = true) := HO.out hk
        go_wp2_with fail
        refine HP.out.mono ?_
        rintro e w1 ⟨rfl, hb1⟩
        have HB1 := hide (bel_trans HB.out hb1)
        clear hb1
        go_wp2_with fail
        go_ret
        exact ⟨⟨_, rfl, by rw [HR.out]; simp⟩, HB1.out⟩
    · have hlt' : ¬ (j : Int) < ls.length := by omega
      have HR : Hid (parL ls = false) := by have h := HN.out; rw [List.take_of_length_le (by omega)] at h; exact h
      go_wp2_with fail
      go_ret
      exact ⟨⟨_, rfl, by rw [HR.out]; decide⟩, HB.out⟩
set_option maxHeartbeats 1000000 in
theorem conL_any (v : Value) (ls : List (List Nd)) (w : World) (hv : LevsAt w v ls) (hl : ls.length ≤ 1048576) (hll : ∀ l ∈ ls, l.length ≤ 1048576) :
    Calls Tryz.prog 219 #[v, .func (.func 220) #[] #[]] w fun e w' => e = .returned (.bool (parL ls)) ∧ Below w.heap.size w w' := by
  have HI := hide (idxL_any v ls w hv hl hll)
  obtain ⟨a, cap, rfl, _, _, _⟩ := hv
  go_enter Tryz.func219, Tryz.ntmps219
  go_wp2_with fail
  refine HI.out.mono ?_
  rintro e w1 ⟨⟨r, rfl, hr⟩, hb1⟩
  have HR := hide hr
  clear hr
  go_wp2_with fail
  go_ret
  exact ⟨by rw [HR.out]; rfl, hb1⟩
end Go.Proofs.YtpmpooekpeocdaaGreat

/- What the program's termLevelsOk and termFieldsOk answer. -/
namespace Go.Proofs.YtpmpooekpeocdaaGreat
open Go.ChangeShapes Go.WideShapes Go.ChangeAt Go.RowKit

theorem all_take_succ {ls : List (List Nd)} {k : Nat} (h : k < ls.length) (ha : (ls.take k).all lvlB = true) (hb : lvlB ls[k] = true) : (ls.take (k + 1)).all lvlB = true := by
  rw [List.take_succ_eq_append_getElem h, List.all_append, ha]; simp [hb]
theorem all_not_at {ls : List (List Nd)} {k : Nat} (h : k < ls.length) (hb : lvlB ls[k] = false) : ls.all lvlB = false := by
  rw [List.all_eq_false]; exact ⟨ls[k], by simp, by simp [hb]⟩
theorem tlev_no {td : Td} (h : (td.lv.length : Int) < leastL td.k ∨ mostL td.k < (td.lv.length : Int)) : tlevB td = false := by
  unfold tlevB
  rcases h with h | h
  · rw [show decide (leastL td.k ≤ (td.lv.length : Int)) = false by simp; omega]; rfl
  · rw [show decide ((td.lv.length : Int) ≤ mostL td.k) = false by simp; omega]; simp
theorem tlev_yes {td : Td} (h1 : leastL td.k ≤ (td.lv.length : Int)) (h2 : (td.lv.length : Int) ≤ mostL td.k) : tlevB td = td.lv.all lvlB := by
  unfold tlevB; simp [h1, h2]

set_option maxHeartbeats 2000000 in
theorem termLevelsOk_any (td : Td) (lv : Value) (ka : Option Addr) (kn kc : Nat) (w : World) (hl : LevsAt w lv td.lv) (hz : ∀ l ∈ td.lv, LvLens l) :
    Calls Tryz.prog 217 #[.agg #[.int .i64 td.k, .int .i64 td.n, .int .i64 td.m, .string td.s, lv, .slice ka kn kc]] w fun e w' => e = .returned (.bool (tlevB td)) ∧ Below w.heap.size w w' := by
  have HNO := hide (tlev_no (td := td))
  have HYES := hide (tlev_yes (td := td))
  obtain ⟨k, n, m, s, ls, kids⟩ := td
  dsimp only at *
  obtain ⟨a, cap, rfl, hlc, hcm, hc⟩ := hl
  have HC : Hid (0 < ls.length → ∃ b off, a = some ⟨b, off, none⟩ ∧ ∀ i (h : i < ls.length), ∃ u, w.cell? ⟨b, off + i, none⟩ = some u ∧ NodesAt w u ls[i]) := hc
  have HZ := hide hz
  unfold maxLen at hcm
  clear hc hz
  by_cases hk2 : k = 2
  · subst hk2
    have HL1 : Hid (leastL 2 = 1) := rfl
    have HL2 : Hid (mostL 2 = 1) := rfl
    rw [HL1.out, HL2.out] at HNO HYES
    by_cases h1 : (ls.length : Int) < 1
    · have HF := hide (HNO.out (.inl h1))
      have d1 : decide ((ls.length : Int) < 1) = true := by simp; omega
      go_enter Tryz.func217, Tryz.ntmps217
      go_wp2_with fail
      go_ret
      exact ⟨ret_bool HF.out.symm, bel_alloc (Below.refl _ _) _⟩
    have d1 : decide ((ls.length : Int) < 1) = false := by simp; omega
    by_cases h2 : (1 : Int) < (ls.length : Int)
    · have HF := hide (HNO.out (.inr h2))
      have d2 : decide ((1 : Int) < (ls.length : Int)) = true := by simp; omega
      go_enter Tryz.func217, Tryz.ntmps217
      go_wp2_with fail
      go_ret
      exact ⟨ret_bool HF.out.symm, bel_alloc (Below.refl _ _) _⟩
    have d2 : decide ((1 : Int) < (ls.length : Int)) = false := by simp; omega
    have HY := hide (HYES.out (by omega) (by omega))
    rw [HY.out]
    clear HNO HYES h1 h2
    go_enter Tryz.func217, Tryz.ntmps217
    go_wp2_with fail
    go_loopw [28] (fun i wr => ∃ j : Nat, j ≤ ls.length ∧ i = .int .i64 j ∧ Hid ((ls.take j).all lvlB = true) ∧ Below w.heap.size w wr) (fun i _ => ls.length - (intOf i).toNat)
    case atStart => exact ⟨0, by omega, rfl, by simp [Hid], bel_alloc (Below.refl _ _) _⟩
    case round =>
      obtain ⟨j, hj, rfl, HA, hbel⟩ := hrel
      by_cases hlt : j < ls.length
      · obtain ⟨b, off, rfl, hc⟩ := HC.out (by omega)
        obtain ⟨u, c1, hnu⟩ := hc j hlt
        have c1' := keep_cell hbel c1
        have HNU := hide (hnu.keep hbel)
        have HSZ := hide (HZ.out ls[j] (by simp))
        have HT := hide (all_take_succ hlt HA.out)
        have HN := hide (all_not_at hlt)
        have hlt' : (j : Int) < ls.length := by omega
        clear hc c1
        generalize ls[j] = ns at *
        obtain ⟨ua, uc, rfl, _, _, _⟩ := hnu
        cases hB : lvlB ns
        · have HF : Hid (ls.all lvlB = false) := HN.out hB
          go_wp2_with (go_at_call 197; refine (implLevelOk_any _ ns _ (HNU.out.keep (bel_alloc (Below.refl _ _) _)) HSZ.out).mono ?_; rintro e w2 ⟨rfl, hb2⟩; rw [hB])
          go_ret
          exact ⟨ret_bool HF.out.symm, (bel_alloc hbel _).trans (hb2.mono (by have := hbel.size; simp; omega))⟩
        · have HF := hide (HT.out hB)
          go_wp2_with (go_at_call 197; refine (implLevelOk_any _ ns _ (HNU.out.keep (bel_alloc (Below.refl _ _) _)) HSZ.out).mono ?_; rintro e w2 ⟨rfl, hb2⟩; rw [hB])
          go_roundw
          case rel => exact ⟨j + 1, by omega, by go_num, HF, (bel_alloc hbel _).trans (hb2.mono (by have := hbel.size; simp; omega))⟩
          case measure => simp [intOf]; omega
      · have HF : Hid (ls.all lvlB = true) := by have := HA.out; rwa [List.take_of_length_le (by omega)] at this
        have hlt' : ¬ (j : Int) < ls.length := by omega
        go_wp2_with fail
        go_ret
        exact ⟨ret_bool HF.out.symm, hbel⟩
  by_cases hk3 : k = 3
  · subst hk3
    have HL1 : Hid (leastL 3 = 0) := rfl
    have HL2 : Hid (mostL 3 = 6) := rfl
    rw [HL1.out, HL2.out] at HNO HYES
    have h1 : ¬ (ls.length : Int) < 0 := by omega
    have d1 : decide ((ls.length : Int) < 0) = false := by simp
    by_cases h2 : (6 : Int) < (ls.length : Int)
    · have HF := hide (HNO.out (.inr h2))
      have d2 : decide ((6 : Int) < (ls.length : Int)) = true := by simp; omega
      go_enter Tryz.func217, Tryz.ntmps217
      go_wp2_with fail
      go_ret
      exact ⟨ret_bool HF.out.symm, bel_alloc (Below.refl _ _) _⟩
    have d2 : decide ((6 : Int) < (ls.length : Int)) = false := by simp; omega
    have HY := hide (HYES.out (by omega) (by omega))
    rw [HY.out]
    clear HNO HYES h1 h2
    go_enter Tryz.func217, Tryz.ntmps217
    go_wp2_with fail
    go_loopw [28] (fun i wr => ∃ j : Nat, j ≤ ls.length ∧ i = .int .i64 j ∧ Hid ((ls.take j).all lvlB = true) ∧ Below w.heap.size w wr) (fun i _ => ls.length - (intOf i).toNat)
    case atStart => exact ⟨0, by omega, rfl, by simp [Hid], bel_alloc (Below.refl _ _) _⟩
    case round =>
      obtain ⟨j, hj, rfl, HA, hbel⟩ := hrel
      by_cases hlt : j < ls.length
      · obtain ⟨b, off, rfl, hc⟩ := HC.out (by omega)
        obtain ⟨u, c1, hnu⟩ := hc j hlt
        have c1' := keep_cell hbel c1
        have HNU := hide (hnu.keep hbel)
        have HSZ := hide (HZ.out ls[j] (by simp))
        have HT := hide (all_take_succ hlt HA.out)
        have HN := hide (all_not_at hlt)
        have hlt' : (j : Int) < ls.length := by omega
        clear hc c1
        generalize ls[j] = ns at *
        obtain ⟨ua, uc, rfl, _, _, _⟩ := hnu
        cases hB : lvlB ns
        · have HF : Hid (ls.all lvlB = false) := HN.out hB
          go_wp2_with (go_at_call 197; refine (implLevelOk_any _ ns _ (HNU.out.keep (bel_alloc (Below.refl _ _) _)) HSZ.out).mono ?_; rintro e w2 ⟨rfl, hb2⟩; rw [hB])
          go_ret
          exact ⟨ret_bool HF.out.symm, (bel_alloc hbel _).trans (hb2.mono (by have := hbel.size; simp; omega))⟩
        · have HF := hide (HT.out hB)
          go_wp2_with (go_at_call 197; refine (implLevelOk_any _ ns _ (HNU.out.keep (bel_alloc (Below.refl _ _) _)) HSZ.out).mono ?_; rintro e w2 ⟨rfl, hb2⟩; rw [hB])
          go_roundw
          case rel => exact ⟨j + 1, by omega, by go_num, HF, (bel_alloc hbel _).trans (hb2.mono (by have := hbel.size; simp; omega))⟩
          case measure => simp [intOf]; omega
      · have HF : Hid (ls.all lvlB = true) := by have := HA.out; rwa [List.take_of_length_le (by omega)] at this
        have hlt' : ¬ (j : Int) < ls.length := by omega
        go_wp2_with fail
        go_ret
        exact ⟨ret_bool HF.out.symm, hbel⟩
  · have e2 : (k == 2) = false := beq_eq_false_iff_ne.2 hk2
    have e3 : (k == 3) = false := beq_eq_false_iff_ne.2 hk3
    have HL1 : Hid (leastL k = 0) := by show _ = _; simp [leastL, hk2]
    have HL2 : Hid (mostL k = 0) := by show _ = _; simp [mostL, hk2, hk3]
    rw [HL1.out, HL2.out] at HNO HYES
    by_cases h2 : 0 < ls.length
    · have HF := hide (HNO.out (.inr (by omega)))
      rw [HF.out]
      clear HNO HYES HC
      generalize ls.length = L at *
      go_enter Tryz.func217, Tryz.ntmps217
      go_wp2_with fail
      go_ret
      exact ⟨rfl, bel_alloc (Below.refl _ _) _⟩
    · have hnil : ls = [] := List.eq_nil_of_length_eq_zero (by omega)
      have HY := hide (HYES.out (by omega) (by omega))
      rw [HY.out]
      clear HNO HYES HC HY HZ
      subst hnil
      simp only [List.length_nil, List.all_nil]
      go_enter Tryz.func217, Tryz.ntmps217
      go_wp2_with fail
      go_loopw [28] (fun i wr => i = .int .i64 0 ∧ Below w.heap.size w wr) (fun _ _ => 0)
      case atStart => exact ⟨rfl, bel_alloc (Below.refl _ _) _⟩
      case round =>
        obtain ⟨rfl, hbel⟩ := hrel
        go_wp2_with fail
        go_ret
        exact ⟨rfl, hbel⟩
end Go.Proofs.YtpmpooekpeocdaaGreat

/- What the specification's l1Trees answers: the trees of levels, or false where one is not valid. -/
namespace Go.Proofs.YtpmpooekpeocdaaGreat
open Go.ChangeShapes Go.WideShapes Go.ChangeAt Go.RowKit

theorem Tryz.results175 : Tryz.f175.results = #[.tmp 2, .tmp 3] := by kernel_rfl
/-- A row of levels as trees, so many of them. -/
def LevRow (w : World) (v : Value) (n : Nat) : Prop := ∃ ps us, ps.length = n ∧ PtrRow w v ps ∧ LevTrees w ps us
theorem TreesAt.snoc {w w' : World} {ps : List Nat} {us : List Tr} (h : TreesAt w ps us) (hk : ∀ j (h1 : j < ps.length) (h2 : j < us.length), TreeAt w'.heap.size w' ps[j] us[j]) {g : Nat} {u : Tr} (hg : TreeAt w'.heap.size w' g u) : TreesAt w' (ps ++ [g]) (us ++ [u]) := by
  refine ⟨by simp [h.1], fun j h1 h2 => ?_⟩
  by_cases e : j < ps.length
  · rw [List.getElem_append_left e, List.getElem_append_left (by have := h.1; omega)]; exact hk j e (by have := h.1; omega)
  · have h3 : j = ps.length := by simp at h1; omega
    subst h3
    have h4 := h.1
    simp only [List.getElem_append_right (Nat.le_refl _), h4, Nat.sub_self, List.getElem_cons_zero]
    rw [List.getElem_append_right (by omega)]
    simpa [h4] using hg
theorem fits_of {ns : List Nd} {t : Tr} (hl : lvlB ns = true) (h2 : t.names [] = namesOf ns) (h3 : t.cnt = ns.length) : fitsB t = true := by
  unfold fitsB
  simp [lvlB] at hl
  obtain ⟨⟨_, h5⟩, h6⟩ := hl
  cases hr : runTo ns ns.length with
  | none => rw [hr] at h6; cases h6
  | some st => rw [hr] at h6; simp at h6; simp; rw [h2, h3]; exact ⟨h5, h6.2⟩

end Go.Proofs.YtpmpooekpeocdaaGreat

/- What the specification's l3Make answers: a new node, with its size, how far its variables reach, and whether it has holes. -/
namespace Go.Proofs.YtpmpooekpeocdaaGreat
open Go.ChangeShapes Go.WideShapes Go.ChangeAt Go.RowKit

/-- What is kept of a node: its size, how far its variables reach, whether it has holes. -/
structure Zs where
  sz : Int
  lo : Int
  ho : Bool
def tnL (k n m : Int) (s : ByteArray) (lv kv : Value) (z : Zs) : List Value := [.int .i64 k, .int .i64 n, .int .i64 m, .string s, lv, kv, .int .i64 z.sz, .int .i64 z.lo, .bool z.ho]
/-- A node's block. -/
def TnAt (base : Nat) (w : World) (g : Nat) (xs : List Value) : Prop := w.ownsRow base 102 9 (.slice (some ⟨g, 0, none⟩) 1 1) 1 xs
def SzAt (w : World) (p : Nat) (z : Zs) : Prop := ∃ k n m s lv kv, TnAt 0 w p (tnL k n m s lv kv z)
theorem TnAt.keep {base : Nat} {w w' : World} {g : Nat} {xs : List Value} (h : TnAt base w g xs) (hb : Below w.heap.size w w') : TnAt base w' g xs := row_keep hb h
theorem SzAt.keep {w w' : World} {p : Nat} {z : Zs} (h : SzAt w p z) (hb : Below w.heap.size w w') : SzAt w' p z := by
  obtain ⟨k, n, m, s, lv, kv, h⟩ := h
  exact ⟨k, n, m, s, lv, kv, h.keep hb⟩
theorem TnAt.base {base b2 : Nat} {w : World} {g : Nat} {xs : List Value} (h : TnAt base w g xs) (hb : b2 ≤ base) : TnAt b2 w g xs := by
  obtain ⟨h1, h2⟩ := h
  rcases h2 with ⟨h', _⟩ | ⟨g', cap', cur, h', h3, h4⟩
  · simp at h'
  · exact ⟨h1, .inr ⟨g', cap', cur, h', by omega, h4⟩⟩
theorem SzAt.cells {w : World} {p : Nat} {z : Zs} (h : SzAt w p z) : w.cell? ⟨p, 6, none⟩ = some (.int .i64 z.sz) ∧ w.cell? ⟨p, 7, none⟩ = some (.int .i64 z.lo) ∧ w.cell? ⟨p, 8, none⟩ = some (.bool z.ho) ∧ p < w.heap.size := by
  obtain ⟨k, n, m, s, lv, kv, h⟩ := h
  exact ⟨by rw [World.ownsRow.cellAt h 6 (by omega)]; rfl, by rw [World.ownsRow.cellAt h 7 (by omega)]; rfl, by rw [World.ownsRow.cellAt h 8 (by omega)]; rfl, (World.ownsRow.lt h p rfl).2⟩
def sumZ : List Zs → Int
  | [] => 0
  | z :: l => z.sz + sumZ l
theorem sumZ_append (a b : List Zs) : sumZ (a ++ b) = sumZ a + sumZ b := by
  induction a with
  | nil => simp [sumZ]
  | cons x a ih => simp only [List.cons_append, sumZ, ih]; omega
theorem sumZ_snoc (l : List Zs) (i : Nat) (h : i < l.length) : sumZ (l.take (i + 1)) = sumZ (l.take i) + l[i].sz := by
  rw [List.take_succ_eq_append_getElem h, sumZ_append]; simp [sumZ]
theorem sumZ_nonneg (l : List Zs) (h : ∀ z ∈ l, 1 ≤ z.sz) : (l.length : Int) ≤ sumZ l := by
  induction l with
  | nil => simp [sumZ]
  | cons x l ih =>
    simp only [sumZ, List.length_cons]
    have := h x (by simp)
    have := ih (fun z hz => h z (by simp [hz]))
    omega
theorem sumZ_le (l : List Zs) (h : ∀ z ∈ l, 1 ≤ z.sz) (i : Nat) : sumZ (l.take i) ≤ sumZ l := by
  have h1 := sumZ_append (l.take i) (l.drop i)
  rw [List.take_append_drop] at h1
  have h2 := sumZ_nonneg (l.drop i) (fun z hz => h z (List.mem_of_mem_drop hz))
  omega
def lastB (k : Int) (zs : List Zs) (j : Nat) : Bool := decide (j + 1 = zs.length) && bindsB k
def freeAt (k : Int) (zs : List Zs) (j : Nat) : Int := (zs.getD j ⟨0, 0, false⟩).lo - (if lastB k zs j then 1 else 0)
def loP (k n : Int) (zs : List Zs) : Nat → Int
  | 0 => if k = 1 then n + 1 else 0
  | j + 1 => max (loP k n zs j) (freeAt k zs j)
def hoP (k : Int) (zs : List Zs) (j : Nat) : Bool := (k == 9) || (zs.take j).any (·.ho)
/-- What is kept of a new node. -/
def zmk (k n : Int) (zs : List Zs) : Zs := ⟨1 + sumZ zs, loP k n zs zs.length, hoP k zs zs.length⟩
def ZOk (z : Zs) : Prop := 1 ≤ z.sz ∧ 0 ≤ z.lo ∧ z.lo ≤ 20001
theorem loP_bounds (k n : Int) (zs : List Zs) (h : ∀ z ∈ zs, ZOk z) (hn : k = 1 → 0 ≤ n ∧ n ≤ 20000) : ∀ j, 0 ≤ loP k n zs j ∧ loP k n zs j ≤ 20001
  | 0 => by
    unfold loP; split
    · next h1 => have := hn h1; omega
    · omega
  | j + 1 => by
    have ih := loP_bounds k n zs h hn j
    have h2 : (zs.getD j ⟨0, 0, false⟩).lo ≤ 20001 := by
      by_cases hj : j < zs.length
      · have := (h zs[j] (by simp)).2.2
        simpa [List.getD, hj] using this
      · simp [List.getD, hj]
    unfold loP freeAt
    split <;> omega
theorem zmk_ok (k n : Int) (zs : List Zs) (h : ∀ z ∈ zs, ZOk z) (hn : k = 1 → 0 ≤ n ∧ n ≤ 20000) : ZOk (zmk k n zs) := by
  have h1 := sumZ_nonneg zs (fun z hz => (h z hz).1)
  have h2 := loP_bounds k n zs h hn zs.length
  exact ⟨by unfold zmk; dsimp only; omega, h2.1, h2.2⟩
theorem hoP_succ (k : Int) (zs : List Zs) (j : Nat) (h : j < zs.length) : hoP k zs (j + 1) = (hoP k zs j || zs[j].ho) := by
  unfold hoP
  rw [List.take_succ_eq_append_getElem h, List.any_append]
  simp [Bool.or_assoc]
end Go.Proofs.YtpmpooekpeocdaaGreat
