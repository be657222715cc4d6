/- What the counting of a term (szTerm and what it calls) answers. -/
import Derived.Test.YtcagcfhnbphggaaGreatDoorTMem
import Derived.Test.YtcagcfhnbphggaaGreatDoorTree
namespace Go.Proofs.YtcagcfhnbphggaaGreatDoor
open Go.ChangeShapes Go.WideShapes Go.ChangeAt Go.RowKit

theorem leftOf_neg {left : Int} {n : Nat} (h : left < n) : leftOf left n = -1 := by rw [leftOf, if_pos h]
theorem leftOf_pos {left : Int} {n : Nat} (h : ¬ left < n) : leftOf left n = left - n := by rw [leftOf, if_neg h]

set_option maxHeartbeats 1000000 in
theorem szLevelS_any (v : Value) (ls : List (List Nd)) (left : Int) (w : World) (hls : LevsAt w v ls) (hsz : ∀ l ∈ ls, LvLens l) (h0 : 0 ≤ left) (h1 : left ≤ 1048576) :
    Calls Tryz.prog 40 #[v, .int .i64 left] w fun e w' => e = .returned (.int .i64 (leftOf left (ls.length + sumL lvSize ls))) ∧ Below w.heap.size w w' := by
  obtain ⟨a, cap, rfl, hlc, hcm, hnode⟩ := hls
  unfold maxLen at hcm
  by_cases h : left < ls.length
  · go_enter Tryz.func40, Tryz.ntmps40
    go_wp2_with fail
    go_ret
    exact ⟨ret_int (by rw [leftOf, if_pos (by omega)]), Below.refl _ _⟩
  have HN : Hid (0 < ls.length → ∃ b off, a = some ⟨b, off, none⟩ ∧ ∀ i (h : i < ls.length), ∃ u, w.cell? ⟨b, off + i, none⟩ = some u ∧ NodesAt w u ls[i]) := hnode
  have HZ : Hid (∀ l ∈ ls, LvLens l) := hsz
  have d0 : decide (left - (ls.length : Int) < 0) = false := by simp; omega
  clear hnode hsz
  go_enter Tryz.func40, Tryz.ntmps40
  go_wp2_with fail
  go_loopw [1, 5] (fun l i wr => ∃ k : Nat, k ≤ ls.length ∧ i = .int .i64 k ∧ (sumL lvSize (ls.take k) : Int) ≤ left - ls.length ∧ l = .int .i64 (left - ls.length - sumL lvSize (ls.take k)) ∧ Below w.heap.size w wr) (fun _ i _ => ls.length - (intOf i).toNat)
  case atStart => exact ⟨0, by omega, rfl, by simp [sumL]; omega, by simp [sumL], Below.refl _ _⟩
  case round =>
    obtain ⟨k, hk, rfl, hsum, rfl, hbel⟩ := hrel
    by_cases hlt : k < ls.length
    · obtain ⟨b, off, ha, hc⟩ := HN.out (by omega)
      subst ha
      obtain ⟨u, hu, hnu⟩ := hc k hlt
      have hsnoc := sumL_snoc lvSize ls k hlt
      have hsl := HZ.out ls[k] (by simp)
      have hle := sumL_le lvSize ls (k + 1)
      generalize ls[k] = ns at *
      have hu' := keep_cell hbel hu
      have hnu' := hnu.keep hbel
      have HNU := hide hnu'
      obtain ⟨ua, uc, rfl, _, _, _⟩ := hnu'
      have HS : Hid (sumL lvSize (ls.take (k + 1)) = sumL lvSize (ls.take k) + (ns.length + nsSum ns)) := hsnoc
      have HSL := hide hsl
      clear hsnoc hc hu hnu hsl
      obtain ⟨L, hL⟩ : ∃ L : Int, L = left - ls.length - sumL lvSize (ls.take k) := ⟨_, rfl⟩
      rw [← hL]
      have hL0 : 0 ≤ L := by omega
      have hL1 : L ≤ 1048576 := by omega
      have HLL : Hid (L = left - ls.length - sumL lvSize (ls.take k)) := hL
      clear hL
      by_cases h3 : L < (ns.length + nsSum ns : Nat)
      · have HL : Hid (leftOf L (ns.length + nsSum ns) = -1) := leftOf_neg h3
        clear h3
        go_wp2_with (go_at_call 61; refine (szLevel_any _ ns _ _ HNU.out HSL.out hL0 hL1).mono ?_; rintro e w' ⟨rfl, hb2⟩; rw [HL.out])
        go_ret
        have := HLL.out; have := HS.out; have h3 := HL.out
        exact ⟨ret_int (by rw [leftOf, if_pos (by unfold leftOf at h3; split at h3 <;> omega)]), hbel.trans (hb2.mono hbel.size)⟩
      · obtain ⟨M, hM⟩ : ∃ M : Int, M = L - (ns.length + nsSum ns : Nat) := ⟨_, rfl⟩
        have HL : Hid (leftOf L (ns.length + nsSum ns) = M) := by show _ = _; rw [leftOf_pos h3, hM]
        have hge : 0 ≤ M := by omega
        have HM := hide hM
        clear h3 hM
        go_wp2_with (go_at_call 61; refine (szLevel_any _ ns _ _ HNU.out HSL.out hL0 hL1).mono ?_; rintro e w' ⟨rfl, hb2⟩; rw [HL.out])
        go_roundw
        case rel =>
          have := HLL.out; have := HS.out; have := HM.out
          exact ⟨k + 1, by omega, by go_num, by omega, by rw [show M = left - ls.length - sumL lvSize (ls.take (k + 1)) from by omega], hbel.trans (hb2.mono hbel.size)⟩
        case measure => simp [intOf]; omega
    · have hke : ls.take k = ls := List.take_of_length_le (by omega)
      rw [hke] at hsum ⊢
      clear hke
      go_wp2_with fail
      go_ret
      exact ⟨ret_int (by rw [leftOf, if_neg (by omega)]; omega), hbel⟩

set_option maxHeartbeats 1000000 in
theorem szNode_any (td : Td) (lv kv : Value) (left : Int) (w : World) (hs : TLens td) (hl : LevsAt w lv td.lv) (hk : IntsAt w kv td.kids) (h0 : 0 ≤ left) (h1 : left ≤ 1048576) :
    Calls Tryz.prog 22 #[.agg #[.int .i64 td.k, .int .i64 td.n, .int .i64 td.m, .string td.s, lv, kv], .int .i64 left] w fun e w' => e = .returned (.int .i64 (leftOf left (tdSize td))) ∧ Below w.heap.size w w' := by
  obtain ⟨hs1, hs2⟩ := hs
  unfold maxLen at hs1
  have HS2 := hide hs2
  clear hs2
  have HLV : Hid (∀ o, LevsAt (w.alloc o) lv td.lv) := fun o => hl.keep (((Below.refl w.heap.size w).alloc (Nat.le_refl _) o))
  have HKV : Hid (∀ o, IntsAt (w.alloc o) kv td.kids) := fun o => hk.keep (((Below.refl w.heap.size w).alloc (Nat.le_refl _) o))
  obtain ⟨la, lc, rfl, _, _, _⟩ := hl
  obtain ⟨ka, kc, rfl, _, _, _⟩ := hk
  by_cases h : left < td.s.size
  · go_enter Tryz.func22, Tryz.ntmps22
    go_wp2_with fail
    go_ret
    exact ⟨ret_int (by rw [leftOf, if_pos (by unfold tdSize; omega)]), (Below.refl _ _).alloc (Nat.le_refl _) _⟩
  obtain ⟨L, hL⟩ : ∃ L : Int, left - td.s.size = L := ⟨_, rfl⟩
  have hL0 : 0 ≤ L := by omega
  have hL1 : L ≤ 1048576 := by omega
  have d0 : decide (L < 0) = false := by simp; omega
  have hwL : IntKind.i64.wrap L = L := by rw [IntKind.wrap_i64]; omega
  by_cases h2 : L < (td.lv.length + sumL lvSize td.lv : Nat)
  · have HL : Hid (leftOf L (td.lv.length + sumL lvSize td.lv) = -1) := leftOf_neg h2
    have HF : Hid (leftOf left (tdSize td) = -1) := leftOf_neg (by unfold tdSize; omega)
    rw [HF.out]
    clear h h2
    go_enter Tryz.func22, Tryz.ntmps22
    go_wp2_with (go_at_call 40; refine (szLevelS_any _ td.lv _ _ (HLV.out _) HS2.out hL0 hL1).mono ?_; rintro e w1 ⟨rfl, hb1⟩; rw [HL.out])
    go_ret
    exact ⟨rfl, ((Below.refl _ _).alloc (Nat.le_refl _) _).trans (hb1.mono (by simp))⟩
  obtain ⟨M, hM⟩ : ∃ M : Int, M = L - (td.lv.length + sumL lvSize td.lv : Nat) := ⟨_, rfl⟩
  have HL : Hid (leftOf L (td.lv.length + sumL lvSize td.lv) = M) := by show _ = _; rw [leftOf_pos h2, hM]
  have hM0 : 0 ≤ M := by omega
  have hM1 : M ≤ 1048576 := by omega
  by_cases h3 : M < (td.kids.length : Nat)
  · have HL2 : Hid (leftOf M td.kids.length = -1) := leftOf_neg h3
    have HF : Hid (leftOf left (tdSize td) = -1) := leftOf_neg (by unfold tdSize; omega)
    rw [HF.out]
    clear h h2 h3 hM
    go_enter Tryz.func22, Tryz.ntmps22
    go_wp2_with fail
    refine (szLevelS_any _ td.lv _ _ (HLV.out _) HS2.out hL0 hL1).mono ?_
    rintro e w1 ⟨rfl, hb1⟩
    rw [HL.out]
    have hx : w1.cell? ⟨w.heap.size, 5, none⟩ = some (.slice ka td.kids.length kc) := keep_cell hb1 (by simp [go_sem])
    have HB1 := hide hb1
    clear hb1
    go_wp2_with (go_at_call 41; refine (szIntS_any _ td.kids _ _ ((HKV.out _).keep HB1.out) hM0 hM1).mono ?_; rintro e w2 ⟨rfl, rfl⟩; rw [HL2.out])
    go_ret
    exact ⟨rfl, ((Below.refl _ _).alloc (Nat.le_refl _) _).trans (HB1.out.mono (by simp))⟩
  obtain ⟨Q, hQ⟩ : ∃ Q : Int, Q = M - (td.kids.length : Nat) := ⟨_, rfl⟩
  have HL2 : Hid (leftOf M td.kids.length = Q) := by show _ = _; rw [leftOf_pos h3, hQ]
  have HF : Hid (leftOf left (tdSize td) = Q) := by show _ = _; rw [leftOf_pos (by unfold tdSize; omega)]; unfold tdSize; omega
  have hQ0 : 0 ≤ Q := by omega
  rw [HF.out]
  clear h h2 h3 hM hQ
  go_enter Tryz.func22, Tryz.ntmps22
  go_wp2_with fail
  refine (szLevelS_any _ td.lv _ _ (HLV.out _) HS2.out hL0 hL1).mono ?_
  rintro e w1 ⟨rfl, hb1⟩
  rw [HL.out]
  have hx : w1.cell? ⟨w.heap.size, 5, none⟩ = some (.slice ka td.kids.length kc) := keep_cell hb1 (by simp [go_sem])
  have HB1 := hide hb1
  clear hb1
  go_wp2_with (go_at_call 41; refine (szIntS_any _ td.kids _ _ ((HKV.out _).keep HB1.out) hM0 hM1).mono ?_; rintro e w2 ⟨rfl, rfl⟩; rw [HL2.out])
  go_ret
  exact ⟨rfl, ((Below.refl _ _).alloc (Nat.le_refl _) _).trans (HB1.out.mono (by simp))⟩

set_option maxHeartbeats 1000000 in
theorem szNodeS_any (v : Value) (ts : List Td) (left : Int) (w : World) (hns : TNodesAt w v ts) (hsz : ∀ td ∈ ts, TLens td) (h0 : 0 ≤ left) (h1 : left ≤ 1048576) :
    Calls Tryz.prog 13 #[v, .int .i64 left] w fun e w' => e = .returned (.int .i64 (leftOf left (tmSize ts))) ∧ Below w.heap.size w w' := by
  unfold tmSize
  obtain ⟨a, cap, rfl, hlc, hcm, hnode⟩ := hns
  unfold maxLen at hcm
  by_cases h : left < ts.length
  · go_enter Tryz.func13, Tryz.ntmps13
    go_wp2_with fail
    go_ret
    exact ⟨ret_int (by rw [leftOf, if_pos (by omega)]), Below.refl _ _⟩
  have HN : Hid (0 < ts.length → ∃ b off, a = some ⟨b, off, none⟩ ∧ ∀ i (h : i < ts.length), TNodeAt w b (off + i * 6) ts[i]) := hnode
  have HZ : Hid (∀ td ∈ ts, TLens td) := hsz
  have d0 : decide (left - (ts.length : Int) < 0) = false := by simp; omega
  clear hnode hsz
  go_enter Tryz.func13, Tryz.ntmps13
  go_wp2_with fail
  go_loopw [1, 5] (fun l i wr => ∃ k : Nat, k ≤ ts.length ∧ i = .int .i64 k ∧ (sumL tdSize (ts.take k) : Int) ≤ left - ts.length ∧ l = .int .i64 (left - ts.length - sumL tdSize (ts.take k)) ∧ Below w.heap.size w wr) (fun _ i _ => ts.length - (intOf i).toNat)
  case atStart => exact ⟨0, by omega, rfl, by simp [sumL]; omega, by simp [sumL], Below.refl _ _⟩
  case round =>
    obtain ⟨k, hk, rfl, hsum, rfl, hbel⟩ := hrel
    by_cases hlt : k < ts.length
    · obtain ⟨b, off, ha, hc⟩ := HN.out (by omega)
      subst ha
      obtain ⟨c1, c2, c3, c4, lv, c5, hlv, kv, c6, hkv⟩ := (hc k hlt).keep (Below.refl _ _)
      have hsnoc := sumL_snoc tdSize ts k hlt
      have hsl := HZ.out ts[k] (by simp)
      have hle := sumL_le tdSize ts (k + 1)
      generalize ts[k] = td at *
      have c1' := keep_cell hbel c1
      have c2' := keep_cell hbel c2
      have c3' := keep_cell hbel c3
      have c4' := keep_cell hbel c4
      have c5' := keep_cell hbel c5
      have c6' := keep_cell hbel c6
      have HLV := hide (hlv.keep hbel)
      have HKV := hide (hkv.keep hbel)
      have HSL := hide hsl
      have HS : Hid (sumL tdSize (ts.take (k + 1)) = sumL tdSize (ts.take k) + tdSize td) := hsnoc
      clear hsnoc hc c1 c2 c3 c4 c5 c6 hsl
      obtain ⟨la, lc, rfl, _, _, _⟩ := hlv
      obtain ⟨ka, kc, rfl, _, _, _⟩ := hkv
      obtain ⟨L, hL⟩ : ∃ L : Int, L = left - ts.length - sumL tdSize (ts.take k) := ⟨_, rfl⟩
      rw [← hL]
      have hL0 : 0 ≤ L := by omega
      have hL1 : L ≤ 1048576 := by omega
      have HLL : Hid (L = left - ts.length - sumL tdSize (ts.take k)) := hL
      clear hL
      by_cases h3 : L < (tdSize td : Nat)
      · have HL : Hid (leftOf L (tdSize td) = -1) := leftOf_neg h3
        have HH3 := hide h3
        clear h3
        go_wp2_with (go_at_call 22; refine (szNode_any td _ _ _ _ HSL.out HLV.out HKV.out hL0 hL1).mono ?_; rintro e w' ⟨rfl, hb2⟩; rw [HL.out])
        go_ret
        have := HLL.out; have := HS.out; have := HH3.out
        exact ⟨ret_int (by rw [leftOf, if_pos (by omega)]), hbel.trans (hb2.mono hbel.size)⟩
      · obtain ⟨M, hM⟩ : ∃ M : Int, M = L - (tdSize td : Nat) := ⟨_, rfl⟩
        have HL : Hid (leftOf L (tdSize td) = M) := by show _ = _; rw [leftOf_pos h3, hM]
        have hge : 0 ≤ M := by omega
        have HM := hide hM
        clear h3 hM
        go_wp2_with (go_at_call 22; refine (szNode_any td _ _ _ _ HSL.out HLV.out HKV.out hL0 hL1).mono ?_; rintro e w' ⟨rfl, hb2⟩; rw [HL.out])
        go_roundw
        case rel =>
          have := HLL.out; have := HS.out; have := HM.out
          exact ⟨k + 1, by omega, by go_num, by omega, by rw [show M = left - ts.length - sumL tdSize (ts.take (k + 1)) from by omega], hbel.trans (hb2.mono hbel.size)⟩
        case measure => simp [intOf]; omega
    · have hke : ts.take k = ts := List.take_of_length_le (by omega)
      rw [hke] at hsum ⊢
      clear hke
      go_wp2_with fail
      go_ret
      exact ⟨ret_int (by rw [leftOf, if_neg (by omega)]; omega), hbel⟩

set_option maxHeartbeats 1000000 in
theorem szTerm_any (v : Value) (ts : List Td) (left : Int) (w : World) (hns : TNodesAt w v ts) (hsz : ∀ td ∈ ts, TLens td) (h0 : 0 ≤ left) (h1 : left ≤ 1048576) :
    Calls Tryz.prog 4 #[.agg #[v], .int .i64 left] w fun e w' => e = .returned (.int .i64 (leftOf left (tmSize ts))) ∧ Below w.heap.size w w' := by
  have HN : Hid (∀ o, TNodesAt (w.alloc o) v ts) := fun o => hns.keep ((Below.refl w.heap.size w).alloc (Nat.le_refl _) o)
  have HZ := hide hsz
  obtain ⟨a, cap, rfl, hlc, hcm, _⟩ := hns
  clear hsz
  by_cases h : left < (tmSize ts : Nat)
  · have HL : Hid (leftOf left (tmSize ts) = -1) := leftOf_neg h
    clear h
    rw [HL.out]
    go_enter Tryz.func4, Tryz.ntmps4
    go_wp2_with (go_at_call 13; refine (szNodeS_any _ ts _ _ (HN.out _) HZ.out h0 h1).mono ?_; rintro e w' ⟨rfl, hb2⟩; rw [HL.out])
    go_ret
    exact ⟨rfl, ((Below.refl _ _).alloc (Nat.le_refl _) _).trans (hb2.mono (by simp))⟩
  · obtain ⟨M, hM⟩ : ∃ M : Int, M = left - (tmSize ts : Nat) := ⟨_, rfl⟩
    have hM0 : 0 ≤ M := by omega
    have HM : Hid (leftOf left (tmSize ts) = M) := by show leftOf _ _ = _; rw [leftOf_pos h, hM]
    clear h hM
    rw [HM.out]
    go_enter Tryz.func4, Tryz.ntmps4
    go_wp2_with (go_at_call 13; refine (szNodeS_any _ ts _ _ (HN.out _) HZ.out h0 h1).mono ?_; rintro e w' ⟨rfl, hb2⟩; rw [HM.out])
    go_ret
    exact ⟨rfl, ((Below.refl _ _).alloc (Nat.le_refl _) _).trans (hb2.mono (by simp))⟩
end Go.Proofs.YtcagcfhnbphggaaGreatDoor

/- What the copying of a term (toTerm and what it calls) answers: a new term with the same nodes; nothing that was there is written. -/
namespace Go.Proofs.YtcagcfhnbphggaaGreatDoor
open Go.ChangeShapes Go.WideShapes Go.ChangeAt Go.RowKit

theorem Tryz.info94 : (Tryz.prog.info? 94).map (fun i => (i.zero, i.size, i.bytes)) = some (some (.agg #[.slice none 0 0]), 1, 24) := by kernel_rfl
end Go.Proofs.YtcagcfhnbphggaaGreatDoor
