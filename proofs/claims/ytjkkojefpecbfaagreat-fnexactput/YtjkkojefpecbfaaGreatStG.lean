/- What the counting of a term (szTerm and what it calls) answers. -/
import Derived.Test.YtjkkojefpecbfaaGreatCut
import Derived.Test.YtjkkojefpecbfaaGreatStA
import Derived.Test.YtjkkojefpecbfaaGreatStF
import Derived.Test.YtjkkojefpecbfaaGreatTSamQ
import Derived.Test.YtjkkojefpecbfaaGreatTFTree
namespace Go.Proofs.YtjkkojefpecbfaaGreat
open Go.ChangeShapes Go.WideShapes Go.ChangeAt Go.RowKit

theorem leftOf_neg {left : Int} {n : Nat} (h : left < n) : leftOf left n = -1 := by rw [leftOf, if_pos h]
theorem leftOf_pos {left : Int} {n : Nat} (h : ¬ left < n) : leftOf left n = left - n := by rw [leftOf, if_neg h]

set_option maxHeartbeats 1000000 in
theorem szLevelS_any (v : Value) (ls : List (List Nd)) (left : Int) (w : World) (hls : LevsAt w v ls) (hsz : ∀ l ∈ ls, LvLens l) (h0 : 0 ≤ left) (h1 : left ≤ 1048576) :
    Calls Tryz.prog 31 #[v, .int .i64 left] w fun e w' => e = .returned (.int .i64 (leftOf left (ls.length + sumL lvSize ls))) ∧ Below w.heap.size w w' := by
  obtain ⟨a, cap, rfl, hlc, hcm, hnode⟩ := hls
  unfold maxLen at hcm
  by_cases h : left < ls.length
  · go_enter Tryz.func31, Tryz.ntmps31
    go_wp2_with fail
    go_ret
    exact ⟨ret_int (by rw [leftOf, if_pos (by omega)]), Below.refl _ _⟩
  have HN : Hid (0 < ls.length → ∃ b off, a = some ⟨b, off, none⟩ ∧ ∀ i (h : i < ls.length), ∃ u, w.cell? ⟨b, off + i, none⟩ = some u ∧ NodesAt w u ls[i]) := hnode
  have HZ : Hid (∀ l ∈ ls, LvLens l) := hsz
  have d0 : decide (left - (ls.length : Int) < 0) = false := by simp; omega
  clear hnode hsz
  go_enter Tryz.func31, Tryz.ntmps31
  go_wp2_with fail
  go_loopw [1, 5] (fun l i wr => ∃ k : Nat, k ≤ ls.length ∧ i = .int .i64 k ∧ (sumL lvSize (ls.take k) : Int) ≤ left - ls.length ∧ l = .int .i64 (left - ls.length - sumL lvSize (ls.take k)) ∧ Below w.heap.size w wr) (fun _ i _ => ls.length - (intOf i).toNat)
  case atStart => exact ⟨0, by omega, rfl, by simp [sumL]; omega, by simp [sumL], Below.refl _ _⟩
  case round =>
    obtain ⟨k, hk, rfl, hsum, rfl, hbel⟩ := hrel
    by_cases hlt : k < ls.length
    · obtain ⟨b, off, ha, hc⟩ := HN.out (by omega)
      subst ha
      obtain ⟨u, hu, hnu⟩ := hc k hlt
      have hsnoc := sumL_snoc lvSize ls k hlt
      have hsl := HZ.out ls[k] (by simp)
      have hle := sumL_le lvSize ls (k + 1)
      generalize ls[k] = ns at *
      have hu' := keep_cell hbel hu
      have hnu' := hnu.keep hbel
      have HNU := hide hnu'
      obtain ⟨ua, uc, rfl, _, _, _⟩ := hnu'
      have HS : Hid (sumL lvSize (ls.take (k + 1)) = sumL lvSize (ls.take k) + (ns.length + nsSum ns)) := hsnoc
      have HSL := hide hsl
      clear hsnoc hc hu hnu hsl
      obtain ⟨L, hL⟩ : ∃ L : Int, L = left - ls.length - sumL lvSize (ls.take k) := ⟨_, rfl⟩
      rw [← hL]
      have hL0 : 0 ≤ L := by omega
      have hL1 : L ≤ 1048576 := by omega
      have HLL : Hid (L = left - ls.length - sumL lvSize (ls.take k)) := hL
      clear hL
      by_cases h3 : L < (ns.length + nsSum ns : Nat)
      · have HL : Hid (leftOf L (ns.length + nsSum ns) = -1) := leftOf_neg h3
        clear h3
        go_wp2_with (go_at_call 68; refine (szLevel_any _ ns _ _ HNU.out HSL.out hL0 hL1).mono ?_; rintro e w' ⟨rfl, hb2⟩; rw [HL.out])
        go_ret
        have := HLL.out; have := HS.out; have h3 := HL.out
        exact ⟨ret_int (by rw [leftOf, if_pos (by unfold leftOf at h3; split at h3 <;> omega)]), hbel.trans (hb2.mono hbel.size)⟩
      · obtain ⟨M, hM⟩ : ∃ M : Int, M = L - (ns.length + nsSum ns : Nat) := ⟨_, rfl⟩
        have HL : Hid (leftOf L (ns.length + nsSum ns) = M) := by show _ = _; rw [leftOf_pos h3, hM]
        have hge : 0 ≤ M := by omega
        have HM := hide hM
        clear h3 hM
        go_wp2_with (go_at_call 68; refine (szLevel_any _ ns _ _ HNU.out HSL.out hL0 hL1).mono ?_; rintro e w' ⟨rfl, hb2⟩; rw [HL.out])
        go_roundw
        case rel =>
          have := HLL.out; have := HS.out; have := HM.out
          exact ⟨k + 1, by omega, by go_num, by omega, by rw [show M = left - ls.length - sumL lvSize (ls.take (k + 1)) from by omega], hbel.trans (hb2.mono hbel.size)⟩
        case measure => simp [intOf]; omega
    · have hke : ls.take k = ls := List.take_of_length_le (by omega)
      rw [hke] at hsum ⊢
      clear hke
      go_wp2_with fail
      go_ret
      exact ⟨ret_int (by rw [leftOf, if_neg (by omega)]; omega), hbel⟩

set_option maxHeartbeats 1000000 in
theorem szNode_any (td : Td) (lv kv : Value) (left : Int) (w : World) (hs : TLens td) (hl : LevsAt w lv td.lv) (hk : IntsAt w kv td.kids) (h0 : 0 ≤ left) (h1 : left ≤ 1048576) :
    Calls Tryz.prog 89 #[.agg #[.int .i64 td.k, .int .i64 td.n, .int .i64 td.m, .string td.s, lv, kv], .int .i64 left] w fun e w' => e = .returned (.int .i64 (leftOf left (tdSize td))) ∧ Below w.heap.size w w' := by
  obtain ⟨hs1, hs2⟩ := hs
  unfold maxLen at hs1
  have HS2 := hide hs2
  clear hs2
  have HLV : Hid (∀ o, LevsAt (w.alloc o) lv td.lv) := fun o => hl.keep (((Below.refl w.heap.size w).alloc (Nat.le_refl _) o))
  have HKV : Hid (∀ o, IntsAt (w.alloc o) kv td.kids) := fun o => hk.keep (((Below.refl w.heap.size w).alloc (Nat.le_refl _) o))
  obtain ⟨la, lc, rfl, _, _, _⟩ := hl
  obtain ⟨ka, kc, rfl, _, _, _⟩ := hk
  by_cases h : left < td.s.size
  · go_enter Tryz.func89, Tryz.ntmps89
    go_wp2_with fail
    go_ret
    exact ⟨ret_int (by rw [leftOf, if_pos (by unfold tdSize; omega)]), (Below.refl _ _).alloc (Nat.le_refl _) _⟩
  obtain ⟨L, hL⟩ : ∃ L : Int, left - td.s.size = L := ⟨_, rfl⟩
  have hL0 : 0 ≤ L := by omega
  have hL1 : L ≤ 1048576 := by omega
  have d0 : decide (L < 0) = false := by simp; omega
  have hwL : IntKind.i64.wrap L = L := by rw [IntKind.wrap_i64]; omega
  by_cases h2 : L < (td.lv.length + sumL lvSize td.lv : Nat)
  · have HL : Hid (leftOf L (td.lv.length + sumL lvSize td.lv) = -1) := leftOf_neg h2
    have HF : Hid (leftOf left (tdSize td) = -1) := leftOf_neg (by unfold tdSize; omega)
    rw [HF.out]
    clear h h2
    go_enter Tryz.func89, Tryz.ntmps89
    go_wp2_with (go_at_call 31; refine (szLevelS_any _ td.lv _ _ (HLV.out _) HS2.out hL0 hL1).mono ?_; rintro e w1 ⟨rfl, hb1⟩; rw [HL.out])
    go_ret
    exact ⟨rfl, ((Below.refl _ _).alloc (Nat.le_refl _) _).trans (hb1.mono (by simp))⟩
  obtain ⟨M, hM⟩ : ∃ M : Int, M = L - (td.lv.length + sumL lvSize td.lv : Nat) := ⟨_, rfl⟩
  have HL : Hid (leftOf L (td.lv.length + sumL lvSize td.lv) = M) := by show _ = _; rw [leftOf_pos h2, hM]
  have hM0 : 0 ≤ M := by omega
  have hM1 : M ≤ 1048576 := by omega
  by_cases h3 : M < (td.kids.length : Nat)
  · have HL2 : Hid (leftOf M td.kids.length = -1) := leftOf_neg h3
    have HF : Hid (leftOf left (tdSize td) = -1) := leftOf_neg (by unfold tdSize; omega)
    rw [HF.out]
    clear h h2 h3 hM
    go_enter Tryz.func89, Tryz.ntmps89
    go_wp2_with fail
    refine (szLevelS_any _ td.lv _ _ (HLV.out _) HS2.out hL0 hL1).mono ?_
    rintro e w1 ⟨rfl, hb1⟩
    rw [HL.out]
    have hx : w1.cell? ⟨w.heap.size, 5, none⟩ = some (.slice ka td.kids.length kc) := keep_cell hb1 (by simp [go_sem])
    have HB1 := hide hb1
    clear hb1
    go_wp2_with (go_at_call 137; refine (szIntS_any _ td.kids _ _ ((HKV.out _).keep HB1.out) hM0 hM1).mono ?_; rintro e w2 ⟨rfl, rfl⟩; rw [HL2.out])
    go_ret
    exact ⟨rfl, ((Below.refl _ _).alloc (Nat.le_refl _) _).trans (HB1.out.mono (by simp))⟩
  obtain ⟨Q, hQ⟩ : ∃ Q : Int, Q = M - (td.kids.length : Nat) := ⟨_, rfl⟩
  have HL2 : Hid (leftOf M td.kids.length = Q) := by show _ = _; rw [leftOf_pos h3, hQ]
  have HF : Hid (leftOf left (tdSize td) = Q) := by show _ = _; rw [leftOf_pos (by unfold tdSize; omega)]; unfold tdSize; omega
  have hQ0 : 0 ≤ Q := by omega
  rw [HF.out]
  clear h h2 h3 hM hQ
  go_enter Tryz.func89, Tryz.ntmps89
  go_wp2_with fail
  refine (szLevelS_any _ td.lv _ _ (HLV.out _) HS2.out hL0 hL1).mono ?_
  rintro e w1 ⟨rfl, hb1⟩
  rw [HL.out]
  have hx : w1.cell? ⟨w.heap.size, 5, none⟩ = some (.slice ka td.kids.length kc) := keep_cell hb1 (by simp [go_sem])
  have HB1 := hide hb1
  clear hb1
  go_wp2_with (go_at_call 137; refine (szIntS_any _ td.kids _ _ ((HKV.out _).keep HB1.out) hM0 hM1).mono ?_; rintro e w2 ⟨rfl, rfl⟩; rw [HL2.out])
  go_ret
  exact ⟨rfl, ((Below.refl _ _).alloc (Nat.le_refl _) _).trans (HB1.out.mono (by simp))⟩

set_option maxHeartbeats 1000000 in
theorem szNodeS_any (v : Value) (ts : List Td) (left : Int) (w : World) (hns : TNodesAt w v ts) (hsz : ∀ td ∈ ts, TLens td) (h0 : 0 ≤ left) (h1 : left ≤ 1048576) :
    Calls Tryz.prog 46 #[v, .int .i64 left] w fun e w' => e = .returned (.int .i64 (leftOf left (tmSize ts))) ∧ Below w.heap.size w w' := by
  unfold tmSize
  obtain ⟨a, cap, rfl, hlc, hcm, hnode⟩ := hns
  unfold maxLen at hcm
  by_cases h : left < ts.length
  · go_enter Tryz.func46, Tryz.ntmps46
    go_wp2_with fail
    go_ret
    exact ⟨ret_int (by rw [leftOf, if_pos (by omega)]), Below.refl _ _⟩
  have HN : Hid (0 < ts.length → ∃ b off, a = some ⟨b, off, none⟩ ∧ ∀ i (h : i < ts.length), TNodeAt w b (off + i * 6) ts[i]) := hnode
  have HZ : Hid (∀ td ∈ ts, TLens td) := hsz
  have d0 : decide (left - (ts.length : Int) < 0) = false := by simp; omega
  clear hnode hsz
  go_enter Tryz.func46, Tryz.ntmps46
  go_wp2_with fail
  go_loopw [1, 5] (fun l i wr => ∃ k : Nat, k ≤ ts.length ∧ i = .int .i64 k ∧ (sumL tdSize (ts.take k) : Int) ≤ left - ts.length ∧ l = .int .i64 (left - ts.length - sumL tdSize (ts.take k)) ∧ Below w.heap.size w wr) (fun _ i _ => ts.length - (intOf i).toNat)
  case atStart => exact ⟨0, by omega, rfl, by simp [sumL]; omega, by simp [sumL], Below.refl _ _⟩
  case round =>
    obtain ⟨k, hk, rfl, hsum, rfl, hbel⟩ := hrel
    by_cases hlt : k < ts.length
    · obtain ⟨b, off, ha, hc⟩ := HN.out (by omega)
      subst ha
      obtain ⟨c1, c2, c3, c4, lv, c5, hlv, kv, c6, hkv⟩ := (hc k hlt).keep (Below.refl _ _)
      have hsnoc := sumL_snoc tdSize ts k hlt
      have hsl := HZ.out ts[k] (by simp)
      have hle := sumL_le tdSize ts (k + 1)
      generalize ts[k] = td at *
      have c1' := keep_cell hbel c1
      have c2' := keep_cell hbel c2
      have c3' := keep_cell hbel c3
      have c4' := keep_cell hbel c4
      have c5' := keep_cell hbel c5
      have c6' := keep_cell hbel c6
      have HLV := hide (hlv.keep hbel)
      have HKV := hide (hkv.keep hbel)
      have HSL := hide hsl
      have HS : Hid (sumL tdSize (ts.take (k + 1)) = sumL tdSize (ts.take k) + tdSize td) := hsnoc
      clear hsnoc hc c1 c2 c3 c4 c5 c6 hsl
      obtain ⟨la, lc, rfl, _, _, _⟩ := hlv
      obtain ⟨ka, kc, rfl, _, _, _⟩ := hkv
      obtain ⟨L, hL⟩ : ∃ L : Int, L = left - ts.length - sumL tdSize (ts.take k) := ⟨_, rfl⟩
      rw [← hL]
      have hL0 : 0 ≤ L := by omega
      have hL1 : L ≤ 1048576 := by omega
      have HLL : Hid (L = left - ts.length - sumL tdSize (ts.take k)) := hL
      clear hL
      by_cases h3 : L < (tdSize td : Nat)
      · have HL : Hid (leftOf L (tdSize td) = -1) := leftOf_neg h3
        have HH3 := hide h3
        clear h3
        go_wp2_with (go_at_call 89; refine (szNode_any td _ _ _ _ HSL.out HLV.out HKV.out hL0 hL1).mono ?_; rintro e w' ⟨rfl, hb2⟩; rw [HL.out])
        go_ret
        have := HLL.out; have := HS.out; have := HH3.out
        exact ⟨ret_int (by rw [leftOf, if_pos (by omega)]), hbel.trans (hb2.mono hbel.size)⟩
      · obtain ⟨M, hM⟩ : ∃ M : Int, M = L - (tdSize td : Nat) := ⟨_, rfl⟩
        have HL : Hid (leftOf L (tdSize td) = M) := by show _ = _; rw [leftOf_pos h3, hM]
        have hge : 0 ≤ M := by omega
        have HM := hide hM
        clear h3 hM
        go_wp2_with (go_at_call 89; refine (szNode_any td _ _ _ _ HSL.out HLV.out HKV.out hL0 hL1).mono ?_; rintro e w' ⟨rfl, hb2⟩; rw [HL.out])
        go_roundw
        case rel =>
          have := HLL.out; have := HS.out; have := HM.out
          exact ⟨k + 1, by omega, by go_num, by omega, by rw [show M = left - ts.length - sumL tdSize (ts.take (k + 1)) from by omega], hbel.trans (hb2.mono hbel.size)⟩
        case measure => simp [intOf]; omega
    · have hke : ts.take k = ts := List.take_of_length_le (by omega)
      rw [hke] at hsum ⊢
      clear hke
      go_wp2_with fail
      go_ret
      exact ⟨ret_int (by rw [leftOf, if_neg (by omega)]; omega), hbel⟩

set_option maxHeartbeats 1000000 in
theorem szTerm_any (v : Value) (ts : List Td) (left : Int) (w : World) (hns : TNodesAt w v ts) (hsz : ∀ td ∈ ts, TLens td) (h0 : 0 ≤ left) (h1 : left ≤ 1048576) :
    Calls Tryz.prog 12 #[.agg #[v], .int .i64 left] w fun e w' => e = .returned (.int .i64 (leftOf left (tmSize ts))) ∧ Below w.heap.size w w' := by
  have HN : Hid (∀ o, TNodesAt (w.alloc o) v ts) := fun o => hns.keep ((Below.refl w.heap.size w).alloc (Nat.le_refl _) o)
  have HZ := hide hsz
  obtain ⟨a, cap, rfl, hlc, hcm, _⟩ := hns
  clear hsz
  by_cases h : left < (tmSize ts : Nat)
  · have HL : Hid (leftOf left (tmSize ts) = -1) := leftOf_neg h
    clear h
    rw [HL.out]
    go_enter Tryz.func12, Tryz.ntmps12
    go_wp2_with (go_at_call 46; refine (szNodeS_any _ ts _ _ (HN.out _) HZ.out h0 h1).mono ?_; rintro e w' ⟨rfl, hb2⟩; rw [HL.out])
    go_ret
    exact ⟨rfl, ((Below.refl _ _).alloc (Nat.le_refl _) _).trans (hb2.mono (by simp))⟩
  · obtain ⟨M, hM⟩ : ∃ M : Int, M = left - (tmSize ts : Nat) := ⟨_, rfl⟩
    have hM0 : 0 ≤ M := by omega
    have HM : Hid (leftOf left (tmSize ts) = M) := by show leftOf _ _ = _; rw [leftOf_pos h, hM]
    clear h hM
    rw [HM.out]
    go_enter Tryz.func12, Tryz.ntmps12
    go_wp2_with (go_at_call 46; refine (szNodeS_any _ ts _ _ (HN.out _) HZ.out h0 h1).mono ?_; rintro e w' ⟨rfl, hb2⟩; rw [HM.out])
    go_ret
    exact ⟨rfl, ((Below.refl _ _).alloc (Nat.le_refl _) _).trans (hb2.mono (by simp))⟩
end Go.Proofs.YtjkkojefpecbfaaGreat

/- What the copying of a term (toTerm and what it calls) answers: a new term with the same nodes; nothing that was there is written. -/
namespace Go.Proofs.YtjkkojefpecbfaaGreat
open Go.ChangeShapes Go.WideShapes Go.ChangeAt Go.RowKit

theorem Tryz.info111 : (Tryz.prog.info? 111).map (fun i => (i.zero, i.size, i.bytes)) = some (some (.agg #[.slice none 0 0]), 1, 24) := by kernel_rfl
end Go.Proofs.YtjkkojefpecbfaaGreat

/- What the copying of a term (toTerm, toNodeS) answers: a new term with the same nodes; nothing that was there is written. -/
namespace Go.Proofs.YtjkkojefpecbfaaGreat
open Go.ChangeShapes Go.WideShapes Go.ChangeAt Go.RowKit

theorem Tryz.info67 : (Tryz.prog.info? 67).map (fun i => (i.zero, i.size, i.bytes)) = some (some (.agg #[.int .i64 0, .int .i64 0, .int .i64 0, .string ⟨#[]⟩, .slice none 0 0, .slice none 0 0]), 6, 88) := by kernel_rfl
/-- What is asked of a node that is copied. -/
def TSmall (td : Td) : Prop := td.lv.length ≤ 1048576 ∧ (∀ l ∈ td.lv, l.length ≤ 1048576 ∧ ∀ nd ∈ l, nd.kids.length ≤ 1048576) ∧ td.kids.length ≤ 1048576
end Go.Proofs.YtjkkojefpecbfaaGreat

/- What the store has of a valid term when its nodes were read: no program is walked here. -/
namespace Go.Proofs.YtjkkojefpecbfaaGreat
open Go.ChangeShapes Go.WideShapes Go.ChangeAt Go.RowKit

theorem run_kinds (ns : List Nd) : ∀ k st, runTo ns k = some st → ∀ i (h : i < ns.length), i < k → 0 ≤ ns[i].k ∧ ns[i].k < 256
  | 0, _, _ => fun i _ h => by omega
  | k + 1, st, h => by
    unfold runTo at h
    split at h
    case h_2 => cases h
    rename_i st' nd h1 h2
    unfold stepN at h
    split at h
    · cases h
    rename_i hno
    simp only [not_or, Decidable.not_not] at hno
    obtain ⟨n1, _⟩ := hno
    intro i hi hik
    by_cases e : i = k
    · subst e
      rw [List.getElem?_eq_getElem hi] at h2
      have e2 := Option.some.inj h2
      rw [e2]
      have := (not_congr (kidsN_neg nd.k)).1 (by omega)
      omega
    · exact run_kinds ns k st' h1 i hi (by omega)
theorem lvl_kinds {ns : List Nd} (h : lvlB ns = true) : ∀ nd ∈ ns, 0 ≤ nd.k ∧ nd.k < 256 := by
  intro nd hnd
  obtain ⟨i, hi, rfl⟩ := List.getElem_of_mem hnd
  simp only [lvlB, Bool.and_eq_true] at h
  cases hr : runTo ns ns.length with
  | none => rw [hr] at h; simp at h
  | some st => exact run_kinds ns ns.length st hr i hi hi
theorem fields_run (F : Td → Bool) (ts : List Td) : ∀ k st, trun F ts k = some st → ∀ i (h : i < ts.length), i < k → F ts[i] = true
  | 0, _, _ => fun i _ h => by omega
  | k + 1, st, h => by
    unfold trun at h
    split at h
    case h_2 => cases h
    rename_i st' td h1 h2
    unfold tstep at h
    split at h
    · cases h
    rename_i hno
    simp only [not_or, Decidable.not_not] at hno
    obtain ⟨_, _, n3, _⟩ := hno
    intro i hi hik
    by_cases e : i = k
    · subst e
      rw [List.getElem?_eq_getElem hi] at h2
      have e2 := Option.some.inj h2
      rw [e2]
      simpa using n3
    · exact fields_run F ts k st' h1 i hi (by omega)
theorem fields_all {ts : List Td} (h : termB ts = true) : ∀ i (hi : i < ts.length), tfieldsB nameB ts[i] = true := by
  simp only [termB, termB', Bool.and_eq_true] at h
  cases hr : trun (tfieldsB nameB) ts ts.length with
  | none => rw [hr] at h; simp at h
  | some st => exact fun i hi => fields_run _ ts ts.length st hr i hi hi
theorem len_of {ts : List Td} (h : termB ts = true) : ts.length ≤ 20000 := by
  simp only [termB, termB', Bool.and_eq_true, decide_eq_true_eq] at h
  exact h.1
theorem lev_of {td : Td} (h : tfieldsB nameB td = true) : ∀ l ∈ td.lv, lvlB l = true := by
  simp only [tfieldsB, tlevB, Bool.and_eq_true, List.all_eq_true] at h
  exact h.2.2
theorem sz_le {ts : List Td} (h : termB ts = true) : ∀ i : Nat, i < ts.length → szI ts (i : Int) ≤ (i : Int) + 1 := by
  intro i
  induction i using Nat.strongRecOn with
  | ind i ih =>
    intro hi
    have ht := tiled_all h i hi
    have hs := ht.span
    cases hk : ts[i].kids with
    | nil =>
      rw [hk] at hs
      have e : (i : Int) + 1 - szI ts i = i := hs
      omega
    | cons c l =>
      rw [hk] at hs
      obtain ⟨c0, c1⟩ := ht.kin c (by rw [hk]; simp)
      have hc := ih c.toNat (by omega) (by omega)
      rw [show ((c.toNat : Nat) : Int) = c by omega] at hc
      have e : c - szI ts c + 1 = (i : Int) + 1 - szI ts i := hs.1
      omega
theorem spN_len (ns : List Nd) : (spN ns).length ≤ lvSize ns := by
  induction ns with
  | nil => simp [spN, lvSize, nsSum]
  | cons nd l ih =>
    have e : (spN (nd :: l)).length = (1 + nd.s.data.toList.length) + (spN l).length := by simp [spN]; omega
    rw [e]
    have e2 : nd.s.data.toList.length = nd.s.size := by simp
    unfold lvSize at ih ⊢
    simp only [nsSum, ndSize, List.length_cons]
    omega
theorem spell_len (ls : List (List Nd)) : (spell ls).length ≤ sumL lvSize ls := by
  induction ls with
  | nil => simp [spell, sumL]
  | cons l ls ih =>
    have e : (spell (l :: ls)).length = (spN l).length + (spell ls).length := by simp [spell]
    rw [e]
    have := spN_len l
    simp only [sumL]
    omega

/-- The key that a node of a term gets. -/
def keyOf (pt : Nat → Nat) (td : Td) : Nk := ⟨td.k, td.n, td.m, td.s, ⟨(spell td.lv).toArray⟩, td.kids[0]?.map (fun c => pt c.toNat), td.kids[1]?.map (fun c => pt c.toNat), td.kids[2]?.map (fun c => pt c.toNat)⟩
theorem keyOf_kid (pt : Nat → Nat) (td : Td) (h3 : td.kids.length ≤ 3) (j : Nat) : (keyOf pt td).kid j = td.kids[j]?.map (fun c => pt c.toNat) := by
  rcases (show j = 0 ∨ j = 1 ∨ j = 2 ∨ 3 ≤ j by omega) with rfl | rfl | rfl | h
  · rfl
  · rfl
  · rfl
  · rw [List.getElem?_eq_none (by omega)]
    obtain ⟨n, rfl⟩ : ∃ n, j = n + 3 := ⟨j - 3, by omega⟩
    rfl
theorem keyOf_same {pt pt' : Nat → Nat} {td : Td} (h : ∀ c ∈ td.kids, pt c.toNat = pt' c.toNat) : keyOf pt td = keyOf pt' td := by
  have e : ∀ j : Nat, td.kids[j]?.map (fun c => pt c.toNat) = td.kids[j]?.map (fun c => pt' c.toNat) := fun j => by
    cases hj : td.kids[j]? with
    | none => rfl
    | some c => simp only [Option.map_some]; rw [h c (List.mem_of_getElem? hj)]
  unfold keyOf
  rw [e 0, e 1, e 2]
/-- What the store has of the first nodes of a term. -/
def Rd (ts : List Td) (pt : Nat → Nat) (L : List (Nk × Nat × Nat)) (Z : Nat → Zs) (k : Nat) : Prop := ∀ i (h : i < ts.length), i < k → (∃ c, (keyOf pt ts[i], pt i, c) ∈ L) ∧ Z (pt i) = zI (Zt ts) (i : Int)
theorem Rd.key {ts : List Td} {pt : Nat → Nat} {L : List (Nk × Nat × Nat)} {Z : Nat → Zs} {k : Nat} (h : Rd ts pt L Z k) (hk : k < ts.length) (ht : Tiled ts k hk) : KeySt L (keyOf pt ts[k]) ∧ kidZ Z (keyOf pt ts[k]) = ts[k].kids.map (zI (Zt ts)) := by
  have ha := ht.arity
  have h3 : ts[k].kids.length ≤ 3 := by have := tkids_le ts[k].k; omega
  have hkid : ∀ j (hj : j < ts[k].kids.length), (keyOf pt ts[k]).kid j = some (pt (ts[k].kids[j]).toNat) := fun j hj => by
    rw [keyOf_kid pt ts[k] h3 j, List.getElem?_eq_getElem hj]; rfl
  have hin : ∀ j (hj : j < ts[k].kids.length), (∃ c, (keyOf pt (ts[(ts[k].kids[j]).toNat]'(by have := ht.kin _ (List.getElem_mem hj); omega)), pt (ts[k].kids[j]).toNat, c) ∈ L) ∧ Z (pt (ts[k].kids[j]).toNat) = zI (Zt ts) (ts[k].kids[j]) := fun j hj => by
    have hc := ht.kin _ (List.getElem_mem hj)
    have := h (ts[k].kids[j]).toNat (by omega) (by omega)
    rw [show (((ts[k].kids[j]).toNat : Nat) : Int) = ts[k].kids[j] by omega] at this
    exact this
  refine ⟨⟨by show 0 ≤ tkidsN ts[k].k; omega, fun j hj => ?_, fun j hj => ?_⟩, ?_⟩
  · have hj' : j < ts[k].kids.length := by have : (j : Int) < tkidsN ts[k].k := hj; omega
    obtain ⟨⟨c, hc⟩, _⟩ := hin j hj'
    exact ⟨_, hc, hkid j hj'⟩
  · have hj' : ts[k].kids.length ≤ j := by have : tkidsN ts[k].k ≤ (j : Int) := hj; omega
    rw [keyOf_kid pt ts[k] h3 j, List.getElem?_eq_none hj']; rfl
  · unfold kidZ
    have e : (tkidsN (keyOf pt ts[k]).k).toNat = ts[k].kids.length := by show (tkidsN ts[k].k).toNat = _; omega
    rw [e]
    apply List.ext_getElem
    · simp
    · intro j h1 h2
      have hj : j < ts[k].kids.length := by simpa using h2
      simp only [List.getElem_map, List.getElem_range]
      rw [hkid j hj]
      exact (hin j hj).2
theorem Rd.more {ts : List Td} {pt : Nat → Nat} {L L' : List (Nk × Nat × Nat)} {Z Z' : Nat → Zs} {k : Nat} (h : Rd ts pt L Z k) (hL : ∀ x ∈ L, x ∈ L' ∧ Z' x.2.1 = Z x.2.1) : Rd ts pt L' Z' k := fun i hi hk => by
  obtain ⟨⟨c, hc⟩, h2⟩ := h i hi hk
  obtain ⟨h3, h4⟩ := hL _ hc
  exact ⟨⟨c, h3⟩, h4.trans h2⟩
theorem Rd.next {base : Nat} {w : World} {Sb mb gb clock : Nat} {ts : List Td} {pt : Nat → Nat} {L : List (Nk × Nat × Nat)} {Z : Nat → Zs} {H : Nat → Bool} {k b : Nat} (hs : St base w Sb mb gb clock L Z H) (h : Rd ts pt L Z k) (hk : k < ts.length) (hT : ∀ i (hi : i < ts.length), Tiled ts i hi) (hb : ∃ c, (keyOf pt ts[k], b, c) ∈ L) : Rd ts (ptPut pt k b) L Z (k + 1) := by
  have hsame : ∀ i (hi : i < ts.length), i ≤ k → keyOf (ptPut pt k b) ts[i] = keyOf pt ts[i] := fun i hi hik => keyOf_same (fun c hc => by
    have := (hT i hi).kin c hc
    exact ptPut_lt (by omega))
  intro i hi hik
  rw [hsame i hi (by omega)]
  by_cases e : i = k
  · subst e
    rw [ptPut_at]
    refine ⟨hb, ?_⟩
    obtain ⟨c, hc⟩ := hb
    rw [(hs.ents _ hc).z, (hT i hi).eqz]
    show zmk _ _ (kidZ Z (keyOf pt ts[i])) = _
    rw [(h.key hi (hT i hi)).2]
    rfl
  · rw [ptPut_lt (by omega)]
    exact h i hi (by omega)
theorem St.row {base : Nat} {w w' : World} {Sb mb gb clock R : Nat} {cs : Array Value} {f : Nat × Nat} {L : List (Nk × Nat × Nat)} {Z : Nat → Zs} {H : Nat → Bool} (hs : St base w Sb mb gb clock L Z H) (hR : w.heap[R]? = some (.cells cs 80 f)) (hg : w.grownBy w' (some R)) (hb : base ≤ R) (hbase : base ≤ w.heap.size) : St base w' Sb mb gb clock L Z H := by
  have hB : Below base w w' := (Below.refl base w).grown hg hbase (fun k hk => by have := Option.some.inj hk; omega)
  have hne : ∀ k (o : Obj), w.heap[k]? = some o → (∀ cs f, o ≠ Obj.cells cs 80 f) → w'.heap[k]? = w.heap[k]? := fun k o hk ho => hg.block k (Array.getElem?_eq_some_iff.1 hk).1 (fun e => by
    have e := Option.some.inj e
    rw [e, hR] at hk
    exact ho cs f (Option.some.inj hk).symm)
  refine ⟨?_, ?_, fun x hx => ?_, hs.lows, ?_, hs.gne, hs.uniq⟩
  · rw [hne Sb _ hs.sb (fun cs f h => by cases h)]; exact hs.sb
  · rw [hne mb _ hs.mp (fun cs f h => by cases h)]; exact hs.mp
  · obtain ⟨cs, h1⟩ := (hs.ents x hx).ptr
    exact (hs.ents x hx).same hB (hne _ _ h1 (fun cs f h => by cases h))
  · obtain ⟨cs, h1⟩ := nb_heap hs.great
    exact nb_same hs.great (hne _ _ h1 (fun cs f h => by cases h))
theorem row_heap {w : World} {base e size n R cap : Nat} {xs : List Value} (h : w.ownsRow base e size (.slice (some ⟨R, 0, none⟩) n cap) n xs) : base ≤ R ∧ ∃ cs, w.heap[R]? = some (.cells cs e (0, 0)) := by
  rcases h.2 with ⟨h', _⟩ | ⟨g, cap, cur, h', h3, h4, _⟩
  · cases h'
  · simp only [Value.slice.injEq, Option.some.injEq, Addr.mk.injEq, and_true, true_and] at h'
    obtain ⟨rfl, rfl⟩ := h'
    exact ⟨h3, cur, h4⟩
end Go.Proofs.YtjkkojefpecbfaaGreat
