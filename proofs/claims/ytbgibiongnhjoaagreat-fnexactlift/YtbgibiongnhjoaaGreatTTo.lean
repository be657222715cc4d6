/- What the counting of a term (szTerm and what it calls) answers. -/
import Derived.Test.YtbgibiongnhjoaaGreatCut
import Derived.Test.YtbgibiongnhjoaaGreatStA
namespace Go.Proofs.YtbgibiongnhjoaaGreat
open Go.ChangeShapes Go.WideShapes Go.ChangeAt Go.RowKit

theorem leftOf_neg {left : Int} {n : Nat} (h : left < n) : leftOf left n = -1 := by rw [leftOf, if_pos h]
theorem leftOf_pos {left : Int} {n : Nat} (h : ¬ left < n) : leftOf left n = left - n := by rw [leftOf, if_neg h]

set_option maxHeartbeats 1000000 in
theorem szLevelS_any (v : Value) (ls : List (List Nd)) (left : Int) (w : World) (hls : LevsAt w v ls) (hsz : ∀ l ∈ ls, LvLens l) (h0 : 0 ≤ left) (h1 : left ≤ 1048576) :
    Calls Tryz.prog 31 #[v, .int .i64 left] w fun e w' => e = .returned (.int .i64 (leftOf left (ls.length + sumL lvSize ls))) ∧ Below w.heap.size w w' := by
  obtain ⟨a, cap, rfl, hlc, hcm, hnode⟩ := hls
  unfold maxLen at hcm
  by_cases h : left < ls.length
  · go_enter Tryz.func31, Tryz.ntmps31
    go_wp2_with fail
    go_ret
    exact ⟨ret_int (by rw [leftOf, if_pos (by omega)]), Below.refl _ _⟩
  have HN : Hid (0 < ls.length → ∃ b off, a = some ⟨b, off, none⟩ ∧ ∀ i (h : i < ls.length), ∃ u, w.cell? ⟨b, off + i, none⟩ = some u ∧ NodesAt w u ls[i]) := hnode
  have HZ : Hid (∀ l ∈ ls, LvLens l) := hsz
  have d0 : decide (left - (ls.length : Int) < 0) = false := by simp; omega
  clear hnode hsz
  go_enter Tryz.func31, Tryz.ntmps31
  go_wp2_with fail
  go_loopw [1, 5] (fun l i wr => ∃ k : Nat, k ≤ ls.length ∧ i = .int .i64 k ∧ (sumL lvSize (ls.take k) : Int) ≤ left - ls.length ∧ l = .int .i64 (left - ls.length - sumL lvSize (ls.take k)) ∧ Below w.heap.size w wr) (fun _ i _ => ls.length - (intOf i).toNat)
  case atStart => exact ⟨0, by omega, rfl, by simp [sumL]; omega, by simp [sumL], Below.refl _ _⟩
  case round =>
    obtain ⟨k, hk, rfl, hsum, rfl, hbel⟩ := hrel
    by_cases hlt : k < ls.length
    · obtain ⟨b, off, ha, hc⟩ := HN.out (by omega)
      subst ha
      obtain ⟨u, hu, hnu⟩ := hc k hlt
      have hsnoc := sumL_snoc lvSize ls k hlt
      have hsl := HZ.out ls[k] (by simp)
      have hle := sumL_le lvSize ls (k + 1)
      generalize ls[k] = ns at *
      have hu' := keep_cell hbel hu
      have hnu' := hnu.keep hbel
      have HNU := hide hnu'
      obtain ⟨ua, uc, rfl, _, _, _⟩ := hnu'
      have HS : Hid (sumL lvSize (ls.take (k + 1)) = sumL lvSize (ls.take k) + (ns.length + nsSum ns)) := hsnoc
      have HSL := hide hsl
      clear hsnoc hc hu hnu hsl
      obtain ⟨L, hL⟩ : ∃ L : Int, L = left - ls.length - sumL lvSize (ls.take k) := ⟨_, rfl⟩
      rw [← hL]
      have hL0 : 0 ≤ L := by omega
      have hL1 : L ≤ 1048576 := by omega
      have HLL : Hid (L = left - ls.length - sumL lvSize (ls.take k)) := hL
      clear hL
      by_cases h3 : L < (ns.length + nsSum ns : Nat)
      · have HL : Hid (leftOf L (ns.length + nsSum ns) = -1) := leftOf_neg h3
        clear h3
        go_wp2_with (go_at_call 68; refine (szLevel_any _ ns _ _ HNU.out HSL.out hL0 hL1).mono ?_; rintro e w' ⟨rfl, hb2⟩; rw [HL.out])
        go_ret
        have := HLL.out; have := HS.out; have h3 := HL.out
        exact ⟨ret_int (by rw [leftOf, if_pos (by unfold leftOf at h3; split at h3 <;> omega)]), hbel.trans (hb2.mono hbel.size)⟩
      · obtain ⟨M, hM⟩ : ∃ M : Int, M = L - (ns.length + nsSum ns : Nat) := ⟨_, rfl⟩
        have HL : Hid (leftOf L (ns.length + nsSum ns) = M) := by show _ = _; rw [leftOf_pos h3, hM]
        have hge : 0 ≤ M := by omega
        have HM := hide hM
        clear h3 hM
        go_wp2_with (go_at_call 68; refine (szLevel_any _ ns _ _ HNU.out HSL.out hL0 hL1).mono ?_; rintro e w' ⟨rfl, hb2⟩; rw [HL.out])
        go_roundw
        case rel =>
          have := HLL.out; have := HS.out; have := HM.out
          exact ⟨k + 1, by omega, by go_num, by omega, by rw [show M = left - ls.length - sumL lvSize (ls.take (k + 1)) from by omega], hbel.trans (hb2.mono hbel.size)⟩
        case measure => simp [intOf]; omega
    · have hke : ls.take k = ls := List.take_of_length_le (by omega)
      rw [hke] at hsum ⊢
      clear hke
      go_wp2_with fail
      go_ret
      exact ⟨ret_int (by rw [leftOf, if_neg (by omega)]; omega), hbel⟩

set_option maxHeartbeats 1000000 in
theorem szNode_any (td : Td) (lv kv : Value) (left : Int) (w : World) (hs : TLens td) (hl : LevsAt w lv td.lv) (hk : IntsAt w kv td.kids) (h0 : 0 ≤ left) (h1 : left ≤ 1048576) :
    Calls Tryz.prog 89 #[.agg #[.int .i64 td.k, .int .i64 td.n, .int .i64 td.m, .string td.s, lv, kv], .int .i64 left] w fun e w' => e = .returned (.int .i64 (leftOf left (tdSize td))) ∧ Below w.heap.size w w' := by
  obtain ⟨hs1, hs2⟩ := hs
  unfold maxLen at hs1
  have HS2 := hide hs2
  clear hs2
  have HLV : Hid (∀ o, LevsAt (w.alloc o) lv td.lv) := fun o => hl.keep (((Below.refl w.heap.size w).alloc (Nat.le_refl _) o))
  have HKV : Hid (∀ o, IntsAt (w.alloc o) kv td.kids) := fun o => hk.keep (((Below.refl w.heap.size w).alloc (Nat.le_refl _) o))
  obtain ⟨la, lc, rfl, _, _, _⟩ := hl
  obtain ⟨ka, kc, rfl, _, _, _⟩ := hk
  by_cases h : left < td.s.size
  · go_enter Tryz.func89, Tryz.ntmps89
    go_wp2_with fail
    go_ret
    exact ⟨ret_int (by rw [leftOf, if_pos (by unfold tdSize; omega)]), (Below.refl _ _).alloc (Nat.le_refl _) _⟩
  obtain ⟨L, hL⟩ : ∃ L : Int, left - td.s.size = L := ⟨_, rfl⟩
  have hL0 : 0 ≤ L := by omega
  have hL1 : L ≤ 1048576 := by omega
  have d0 : decide (L < 0) = false := by simp; omega
  have hwL : IntKind.i64.wrap L = L := by rw [IntKind.wrap_i64]; omega
  by_cases h2 : L < (td.lv.length + sumL lvSize td.lv : Nat)
  · have HL : Hid (leftOf L (td.lv.length + sumL lvSize td.lv) = -1) := leftOf_neg h2
    have HF : Hid (leftOf left (tdSize td) = -1) := leftOf_neg (by unfold tdSize; omega)
    rw [HF.out]
    clear h h2
    go_enter Tryz.func89, Tryz.ntmps89
    go_wp2_with (go_at_call 31; refine (szLevelS_any _ td.lv _ _ (HLV.out _) HS2.out hL0 hL1).mono ?_; rintro e w1 ⟨rfl, hb1⟩; rw [HL.out])
    go_ret
    exact ⟨rfl, ((Below.refl _ _).alloc (Nat.le_refl _) _).trans (hb1.mono (by simp))⟩
  obtain ⟨M, hM⟩ : ∃ M : Int, M = L - (td.lv.length + sumL lvSize td.lv : Nat) := ⟨_, rfl⟩
  have HL : Hid (leftOf L (td.lv.length + sumL lvSize td.lv) = M) := by show _ = _; rw [leftOf_pos h2, hM]
  have hM0 : 0 ≤ M := by omega
  have hM1 : M ≤ 1048576 := by omega
  by_cases h3 : M < (td.kids.length : Nat)
  · have HL2 : Hid (leftOf M td.kids.length = -1) := leftOf_neg h3
    have HF : Hid (leftOf left (tdSize td) = -1) := leftOf_neg (by unfold tdSize; omega)
    rw [HF.out]
    clear h h2 h3 hM
    go_enter Tryz.func89, Tryz.ntmps89
    go_wp2_with fail
    refine (szLevelS_any _ td.lv _ _ (HLV.out _) HS2.out hL0 hL1).mono ?_
    rintro e w1 ⟨rfl, hb1⟩
    rw [HL.out]
    have hx : w1.cell? ⟨w.heap.size, 5, none⟩ = some (.slice ka td.kids.length kc) := keep_cell hb1 (by simp [go_sem])
    have HB1 := hide hb1
    clear hb1
    go_wp2_with (go_at_call 137; refine (szIntS_any _ td.kids _ _ ((HKV.out _).keep HB1.out) hM0 hM1).mono ?_; rintro e w2 ⟨rfl, rfl⟩; rw [HL2.out])
    go_ret
    exact ⟨rfl, ((Below.refl _ _).alloc (Nat.le_refl _) _).trans (HB1.out.mono (by simp))⟩
  obtain ⟨Q, hQ⟩ : ∃ Q : Int, Q = M - (td.kids.length : Nat) := ⟨_, rfl⟩
  have HL2 : Hid (leftOf M td.kids.length = Q) := by show _ = _; rw [leftOf_pos h3, hQ]
  have HF : Hid (leftOf left (tdSize td) = Q) := by show _ = _; rw [leftOf_pos (by unfold tdSize; omega)]; unfold tdSize; omega
  have hQ0 : 0 ≤ Q := by omega
  rw [HF.out]
  clear h h2 h3 hM hQ
  go_enter Tryz.func89, Tryz.ntmps89
  go_wp2_with fail
  refine (szLevelS_any _ td.lv _ _ (HLV.out _) HS2.out hL0 hL1).mono ?_
  rintro e w1 ⟨rfl, hb1⟩
  rw [HL.out]
  have hx : w1.cell? ⟨w.heap.size, 5, none⟩ = some (.slice ka td.kids.length kc) := keep_cell hb1 (by simp [go_sem])
  have HB1 := hide hb1
  clear hb1
  go_wp2_with (go_at_call 137; refine (szIntS_any _ td.kids _ _ ((HKV.out _).keep HB1.out) hM0 hM1).mono ?_; rintro e w2 ⟨rfl, rfl⟩; rw [HL2.out])
  go_ret
  exact ⟨rfl, ((Below.refl _ _).alloc (Nat.le_refl _) _).trans (HB1.out.mono (by simp))⟩

set_option maxHeartbeats 1000000 in
theorem szNodeS_any (v : Value) (ts : List Td) (left : Int) (w : World) (hns : TNodesAt w v ts) (hsz : ∀ td ∈ ts, TLens td) (h0 : 0 ≤ left) (h1 : left ≤ 1048576) :
    Calls Tryz.prog 46 #[v, .int .i64 left] w fun e w' => e = .returned (.int .i64 (leftOf left (tmSize ts))) ∧ Below w.heap.size w w' := by
  unfold tmSize
  obtain ⟨a, cap, rfl, hlc, hcm, hnode⟩ := hns
  unfold maxLen at hcm
  by_cases h : left < ts.length
  · go_enter Tryz.func46, Tryz.ntmps46
    go_wp2_with fail
    go_ret
    exact ⟨ret_int (by rw [leftOf, if_pos (by omega)]), Below.refl _ _⟩
  have HN : Hid (0 < ts.length → ∃ b off, a = some ⟨b, off, none⟩ ∧ ∀ i (h : i < ts.length), TNodeAt w b (off + i * 6) ts[i]) := hnode
  have HZ : Hid (∀ td ∈ ts, TLens td) := hsz
  have d0 : decide (left - (ts.length : Int) < 0) = false := by simp; omega
  clear hnode hsz
  go_enter Tryz.func46, Tryz.ntmps46
  go_wp2_with fail
  go_loopw [1, 5] (fun l i wr => ∃ k : Nat, k ≤ ts.length ∧ i = .int .i64 k ∧ (sumL tdSize (ts.take k) : Int) ≤ left - ts.length ∧ l = .int .i64 (left - ts.length - sumL tdSize (ts.take k)) ∧ Below w.heap.size w wr) (fun _ i _ => ts.length - (intOf i).toNat)
  case atStart => exact ⟨0, by omega, rfl, by simp [sumL]; omega, by simp [sumL], Below.refl _ _⟩
  case round =>
    obtain ⟨k, hk, rfl, hsum, rfl, hbel⟩ := hrel
    by_cases hlt : k < ts.length
    · obtain ⟨b, off, ha, hc⟩ := HN.out (by omega)
      subst ha
      obtain ⟨c1, c2, c3, c4, lv, c5, hlv, kv, c6, hkv⟩ := (hc k hlt).keep (Below.refl _ _)
      have hsnoc := sumL_snoc tdSize ts k hlt
      have hsl := HZ.out ts[k] (by simp)
      have hle := sumL_le tdSize ts (k + 1)
      generalize ts[k] = td at *
      have c1' := keep_cell hbel c1
      have c2' := keep_cell hbel c2
      have c3' := keep_cell hbel c3
      have c4' := keep_cell hbel c4
      have c5' := keep_cell hbel c5
      have c6' := keep_cell hbel c6
      have HLV := hide (hlv.keep hbel)
      have HKV := hide (hkv.keep hbel)
      have HSL := hide hsl
      have HS : Hid (sumL tdSize (ts.take (k + 1)) = sumL tdSize (ts.take k) + tdSize td) := hsnoc
      clear hsnoc hc c1 c2 c3 c4 c5 c6 hsl
      obtain ⟨la, lc, rfl, _, _, _⟩ := hlv
      obtain ⟨ka, kc, rfl, _, _, _⟩ := hkv
      obtain ⟨L, hL⟩ : ∃ L : Int, L = left - ts.length - sumL tdSize (ts.take k) := ⟨_, rfl⟩
      rw [← hL]
      have hL0 : 0 ≤ L := by omega
      have hL1 : L ≤ 1048576 := by omega
      have HLL : Hid (L = left - ts.length - sumL tdSize (ts.take k)) := hL
      clear hL
      by_cases h3 : L < (tdSize td : Nat)
      · have HL : Hid (leftOf L (tdSize td) = -1) := leftOf_neg h3
        have HH3 := hide h3
        clear h3
        go_wp2_with (go_at_call 89; refine (szNode_any td _ _ _ _ HSL.out HLV.out HKV.out hL0 hL1).mono ?_; rintro e w' ⟨rfl, hb2⟩; rw [HL.out])
        go_ret
        have := HLL.out; have := HS.out; have := HH3.out
        exact ⟨ret_int (by rw [leftOf, if_pos (by omega)]), hbel.trans (hb2.mono hbel.size)⟩
      · obtain ⟨M, hM⟩ : ∃ M : Int, M = L - (tdSize td : Nat) := ⟨_, rfl⟩
        have HL : Hid (leftOf L (tdSize td) = M) := by show _ = _; rw [leftOf_pos h3, hM]
        have hge : 0 ≤ M := by omega
        have HM := hide hM
        clear h3 hM
        go_wp2_with (go_at_call 89; refine (szNode_any td _ _ _ _ HSL.out HLV.out HKV.out hL0 hL1).mono ?_; rintro e w' ⟨rfl, hb2⟩; rw [HL.out])
        go_roundw
        case rel =>
          have := HLL.out; have := HS.out; have := HM.out
          exact ⟨k + 1, by omega, by go_num, by omega, by rw [show M = left - ts.length - sumL tdSize (ts.take (k + 1)) from by omega], hbel.trans (hb2.mono hbel.size)⟩
        case measure => simp [intOf]; omega
    · have hke : ts.take k = ts := List.take_of_length_le (by omega)
      rw [hke] at hsum ⊢
      clear hke
      go_wp2_with fail
      go_ret
      exact ⟨ret_int (by rw [leftOf, if_neg (by omega)]; omega), hbel⟩

set_option maxHeartbeats 1000000 in
theorem szTerm_any (v : Value) (ts : List Td) (left : Int) (w : World) (hns : TNodesAt w v ts) (hsz : ∀ td ∈ ts, TLens td) (h0 : 0 ≤ left) (h1 : left ≤ 1048576) :
    Calls Tryz.prog 12 #[.agg #[v], .int .i64 left] w fun e w' => e = .returned (.int .i64 (leftOf left (tmSize ts))) ∧ Below w.heap.size w w' := by
  have HN : Hid (∀ o, TNodesAt (w.alloc o) v ts) := fun o => hns.keep ((Below.refl w.heap.size w).alloc (Nat.le_refl _) o)
  have HZ := hide hsz
  obtain ⟨a, cap, rfl, hlc, hcm, _⟩ := hns
  clear hsz
  by_cases h : left < (tmSize ts : Nat)
  · have HL : Hid (leftOf left (tmSize ts) = -1) := leftOf_neg h
    clear h
    rw [HL.out]
    go_enter Tryz.func12, Tryz.ntmps12
    go_wp2_with (go_at_call 46; refine (szNodeS_any _ ts _ _ (HN.out _) HZ.out h0 h1).mono ?_; rintro e w' ⟨rfl, hb2⟩; rw [HL.out])
    go_ret
    exact ⟨rfl, ((Below.refl _ _).alloc (Nat.le_refl _) _).trans (hb2.mono (by simp))⟩
  · obtain ⟨M, hM⟩ : ∃ M : Int, M = left - (tmSize ts : Nat) := ⟨_, rfl⟩
    have hM0 : 0 ≤ M := by omega
    have HM : Hid (leftOf left (tmSize ts) = M) := by show leftOf _ _ = _; rw [leftOf_pos h, hM]
    clear h hM
    rw [HM.out]
    go_enter Tryz.func12, Tryz.ntmps12
    go_wp2_with (go_at_call 46; refine (szNodeS_any _ ts _ _ (HN.out _) HZ.out h0 h1).mono ?_; rintro e w' ⟨rfl, hb2⟩; rw [HM.out])
    go_ret
    exact ⟨rfl, ((Below.refl _ _).alloc (Nat.le_refl _) _).trans (hb2.mono (by simp))⟩
end Go.Proofs.YtbgibiongnhjoaaGreat

/- What the copying of a term (toTerm and what it calls) answers: a new term with the same nodes; nothing that was there is written. -/
namespace Go.Proofs.YtbgibiongnhjoaaGreat
open Go.ChangeShapes Go.WideShapes Go.ChangeAt Go.RowKit

/-- What holds in every world that keeps the cells of the blocks from B on. -/
def Fr (B : Nat) (w : World) (P : World → Prop) : Prop := ∀ w' : World, (∀ b o v, B ≤ b → w.cell? ⟨b, o, none⟩ = some v → w'.cell? ⟨b, o, none⟩ = some v) → P w'
theorem Fr.at {B : Nat} {w : World} {P : World → Prop} (h : Fr B w P) : P w := h w (fun _ _ _ _ h => h)
theorem Fr.set {B : Nat} {w : World} {P : World → Prop} (h : Fr B w P) {p : Addr} (hp : p.block < B) (u : Value) : Fr B (w.setCell p u) P :=
  fun w' hw => h w' (fun b o v hb hv => hw b o v hb (by rw [cell_set (by omega)]; exact hv))
theorem Fr.mono {B B' : Nat} {w : World} {P : World → Prop} (h : Fr B w P) (hB : B' ≤ B) : Fr B' w P := fun w' hw => h w' (fun b o v hb => hw b o v (by omega))
theorem Fr.keep {B : Nat} {w w' : World} {P : World → Prop} (h : Fr B w P) (hb : Below w.heap.size w w') : Fr B w' P := fun w2 hw => h w2 (fun b o v hB hv => hw b o v hB (keep_cell hb hv))
theorem Fr.drewN {B : Nat} {w : World} {P : World → Prop} (h : Fr B w P) (n : Nat) : Fr B (w.drewN n) P := h
abbrev LvFr (B : Nat) (w : World) (v : Value) (ns : List Nd) : Prop := Fr B w (fun w => NodesAt w v ns)
theorem IntsAt.some {w w' : World} {g n cap : Nat} {ks : List Int} (h : IntsAt w (.slice (some ⟨g, 0, none⟩) n cap) ks) (hc : ∀ o u, w.cell? ⟨g, o, none⟩ = some u → w'.cell? ⟨g, o, none⟩ = some u) : IntsAt w' (.slice (some ⟨g, 0, none⟩) n cap) ks := by
  obtain ⟨a, c, hv, h1, h2, h3⟩ := h
  refine ⟨a, c, hv, h1, h2, fun h0 => ?_⟩
  obtain ⟨b, off, ha, hcc⟩ := h3 h0
  subst ha
  simp only [Value.slice.injEq, Option.some.injEq, Addr.mk.injEq] at hv
  obtain ⟨⟨rfl, _, _⟩, _⟩ := hv
  exact ⟨g, off, rfl, fun j hj => hc _ _ (hcc j hj)⟩
theorem NodesIn.fr {w : World} {base R n cap : Nat} {e : TypeId} {xs : List Value} {ns : List Nd} (h : w.ownsRow base e 3 (.slice (some ⟨R, 0, none⟩) n cap) n xs) (hn : n = ns.length) (hx : NodesIn w R xs ns ns.length) :
    LvFr R w (.slice (some ⟨R, 0, none⟩) n cap) ns := by
  subst hn
  intro w' hw
  rcases h.2 with ⟨h', _⟩ | ⟨g', cap', cur, h', _, hg, hnc, hcm, hcs, htake⟩
  · simp at h'
  · simp only [Value.slice.injEq, Option.some.injEq, Addr.mk.injEq, and_true, true_and] at h'
    obtain ⟨rfl, rfl⟩ := h'
    refine ⟨_, _, rfl, hnc, hcm, fun _ => ⟨R, 0, rfl, fun i hi => ?_⟩⟩
    obtain ⟨h1, h2, g, h3, h4, h5⟩ := hx i hi hi
    rw [Nat.zero_add]
    exact ⟨hw _ _ _ (Nat.le_refl _) (by rw [h.cellAt _ (by omega)]; exact h1), hw _ _ _ (Nat.le_refl _) (by rw [h.cellAt _ (by omega)]; exact h2), _, hw _ _ _ (Nat.le_refl _) (by rw [h.cellAt _ (by omega)]; exact h4), h5.some (fun o u => hw _ _ u (by omega))⟩

set_option maxHeartbeats 1000000 in
theorem toLNodeS_fr (v : Value) (ns : List Nd) (w : World) (hn : NodesAt w v ns) (hl : ns.length ≤ 1048576) (hkl : ∀ nd ∈ ns, nd.kids.length ≤ 1048576) :
    Calls Tryz.prog 120 #[v] w fun e w' => ∃ g, e = .returned (.slice (some ⟨g, 0, none⟩) ns.length ns.length) ∧ LvFr w.heap.size w' (.slice (some ⟨g, 0, none⟩) ns.length ns.length) ns ∧ w.heap.size ≤ g ∧ Below w.heap.size w w' := by
  obtain ⟨i0, hi, hz0, hz1, hz2⟩ := info_parts Tryz.info174
  obtain ⟨a, cap, rfl, hlc, hcm, hc⟩ := hn
  have HC : Hid (0 < ns.length → ∃ b off, a = some ⟨b, off, none⟩ ∧ ∀ i (h : i < ns.length), NodeAt w b (off + i * 3) ns[i]) := hc
  have HK : Hid (∀ nd ∈ ns, nd.kids.length ≤ 1048576) := hkl
  clear hc hkl
  go_enter Tryz.func120, Tryz.ntmps120
  go_wp2_with (at_make; refine wpList_make_full _ rfl _ _ 109 rfl w.heap.size 174 i0 (.agg #[.int .i64 0, .string ⟨#[]⟩, .slice none 0 0]) 3 Tryz.underlying109 hi hz0 hz1 .i64 .i64 _ _ ns.length rfl rfl rfl rfl (by rw [hz2]; omega) (by unfold maxLen; omega) (Nat.le_refl _) ?_; intro w1 hown hgrow)
  go_loopw [4] (fun i wr => ∃ (k : Nat) (xs : List Value), k ≤ ns.length ∧ i = .int .i64 k ∧ wr.ownsRow w.heap.size 174 3 (.slice (some ⟨w.heap.size, 0, none⟩) ns.length ns.length) ns.length xs ∧ Hid (NodesIn wr w.heap.size xs ns k) ∧ w.heap.size < wr.heap.size ∧ Below w.heap.size w wr) (fun i _ => ns.length - (intOf i).toNat)
  case atStart => exact ⟨0, _, by omega, rfl, hown, fun j _ h => by omega, (hown.lt _ rfl).2, (Below.refl _ _).grown hgrow (Nat.le_refl _) (fun k hk => by cases hk)⟩
  case round =>
    obtain ⟨k, xs, hk, rfl, hownr, HX, hsz, hbel⟩ := hrel
    clear hown hgrow
    by_cases hlt : k < ns.length
    · obtain ⟨b, off, ha, hc⟩ := HC.out (by omega)
      subst ha
      obtain ⟨c1, c2, kv, c3, hkv⟩ := hc k hlt
      have hkl := HK.out ns[k] (by simp)
      have c1' := hbel.cell (p := ⟨b, off + k * 3, none⟩) (lt_cell c1)
      have c2' := hbel.cell (p := ⟨b, off + k * 3 + 1, none⟩) (lt_cell c2)
      have c3' := hbel.cell (p := ⟨b, off + k * 3 + 2, none⟩) (lt_cell c3)
      rw [c1] at c1'
      rw [c2] at c2'
      rw [c3] at c3'
      have hkv' := hkv.keep hbel
      clear hc c1 c2 c3 hkv
      go_wp2_with fail
      refine (toLNode_any ns[k] kv _ hkv' hkl).mono ?_
      rintro e w2 ⟨g, rfl, hints, hg, hb⟩
      have hown2 := row_keep hb hownr
      have HX2 : Hid (NodesIn w2 w.heap.size xs ns k) := HX.out.keep hb
      have hbel2 : Below w.heap.size w w2 := hbel.trans (hb.mono hbel.size)
      have hxl := hown2.1
      have hput := HX2.out.put hxl hlt (by omega) hints (.int .i64 ns[k].k) (.string ns[k].s) (.slice (some ⟨g, 0, none⟩) ns[k].kids.length ns[k].kids.length)
      have s1 := (hown2.stored (k * 3) (.int .i64 ns[k].k)).1
      have s2 := (s1.stored (k * 3 + 1) (.string ns[k].s)).1
      have s3 := (s2.stored (k * 3 + 2) (.slice (some ⟨g, 0, none⟩) ns[k].kids.length ns[k].kids.length)).1
      have f1 := hown2.frozenAt (k * 3)
      have f2 := hown2.frozenAt (k * 3 + 1)
      have f3 := hown2.frozenAt (k * 3 + 2)
      have e1 := hown2.cellAt (k * 3) (by omega)
      have e2 := hown2.cellAt (k * 3 + 1) (by omega)
      have e3 := hown2.cellAt (k * 3 + 2) (by omega)
      rw [List.getElem?_eq_getElem (by omega)] at e1 e2 e3
      have hsz2 : w.heap.size < w2.heap.size := by have := hb.size; omega
      have HP : Hid (NodesIn (((w2.setCell ⟨w.heap.size, k * 3, none⟩ (.int .i64 ns[k].k)).setCell ⟨w.heap.size, k * 3 + 1, none⟩ (.string ns[k].s)).setCell ⟨w.heap.size, k * 3 + 2, none⟩ (.slice (some ⟨g, 0, none⟩) ns[k].kids.length ns[k].kids.length)) w.heap.size _ ns (k + 1)) := hput
      clear hput HX2 HX hints hown2 hownr s1 s2 hb c1' c2' c3' hkv'
      go_wp2_with fail
      go_roundw
      case rel => exact ⟨k + 1, _, by omega, by go_num, s3, HP, by simpa [World.setCell] using hsz2, ((hbel2.setCell (p := ⟨_, _, _⟩) (Nat.le_refl _) _).setCell (p := ⟨_, _, _⟩) (Nat.le_refl _) _).setCell (p := ⟨_, _, _⟩) (Nat.le_refl _) _⟩
      case measure => simp [intOf]; omega
    · have hall := NodesIn.fr hownr rfl (by have := HX.out; rwa [show k = ns.length from by omega] at this)
      go_wp2_with fail
      go_ret
      exact ⟨_, rfl, hall, Nat.le_refl _, hbel⟩

set_option maxHeartbeats 1000000 in
theorem toLevel_fr (v : Value) (ns : List Nd) (w : World) (hn : NodesAt w v ns) (hl : ns.length ≤ 1048576) (hkl : ∀ nd ∈ ns, nd.kids.length ≤ 1048576) :
    Calls Tryz.prog 71 #[.agg #[v]] w fun e w' => ∃ g, e = .returned (.agg #[.slice (some ⟨g, 0, none⟩) ns.length ns.length]) ∧ LvFr w.heap.size w' (.slice (some ⟨g, 0, none⟩) ns.length ns.length) ns ∧ w.heap.size ≤ g ∧ Below w.heap.size w w' := by
  have HN : Hid (∀ o1 o2 o3, NodesAt (((w.alloc o1).alloc o2).alloc o3) v ns) := fun o1 o2 o3 => hn.keep ((((Below.refl w.heap.size w).alloc (Nat.le_refl _) o1).alloc (by simp) o2).alloc (by simp; omega) o3)
  have HK : Hid (∀ nd ∈ ns, nd.kids.length ≤ 1048576) := hkl
  obtain ⟨a, cap, rfl, hlc, hcm, _⟩ := hn
  clear hkl
  go_enter Tryz.func71, Tryz.ntmps71
  go_wp2_with fail
  refine (toLNodeS_fr _ ns _ (HN.out _ _ _) hl HK.out).mono ?_
  rintro e w1 ⟨g, rfl, hnodes, hg, hb⟩
  obtain ⟨hc, hf⟩ := bcell hb
  have hz : w.heap.size + 1 + 1 < w1.heap.size := by have := hb.size; simp at this; omega
  have hbel : Below w.heap.size w w1 := ((((Below.refl w.heap.size w).alloc (Nat.le_refl _) _).alloc (by simp) _).alloc (by simp; omega) _).trans (hb.mono (by simp; omega))
  simp only [World.size_alloc] at hc hf hg
  clear hb
  go_wp2_with fail
  refine bodyPost_ret (v := .agg #[.slice (some ⟨g, 0, none⟩) ns.length ns.length]) (by simp [results, Tryz.results71, go_sem, hc]) rfl ⟨g, rfl, ?_, by omega, ?_⟩
  · exact ((hnodes.set (p := ⟨_, _, _⟩) (by simp) _).set (p := ⟨_, _, _⟩) (by simp) _).mono (by simp; omega)
  · exact (hbel.setCell (p := ⟨_, _, _⟩) (by show _ ≤ w.heap.size + 1 + 1; omega) _).setCell (p := ⟨_, _, _⟩) (by show _ ≤ w.heap.size + 1; omega) _

theorem Tryz.info111 : (Tryz.prog.info? 111).map (fun i => (i.zero, i.size, i.bytes)) = some (some (.agg #[.slice none 0 0]), 1, 24) := by kernel_rfl
/-- The first k levels stand in the row R, their nodes in blocks behind it. -/
def LevsIn (w : World) (R : Nat) (xs : List Value) (ls : List (List Nd)) (k : Nat) : Prop :=
  ∀ i (h : i < ls.length), i < k → ∃ u, xs[i]? = some u ∧ LvFr (R + 1) w u ls[i]
theorem LevsIn.keep {w w' : World} (hb : Below w.heap.size w w') {R : Nat} {xs : List Value} {ls : List (List Nd)} {k : Nat} (h : LevsIn w R xs ls k) : LevsIn w' R xs ls k := fun i hi hk => by
  obtain ⟨u, h1, h2⟩ := h i hi hk
  exact ⟨u, h1, h2.keep hb⟩
theorem LevsIn.put {w : World} {R : Nat} {xs : List Value} {ls : List (List Nd)} {k : Nat} {u : Value} (hx : xs.length = ls.length) (h : LevsIn w R xs ls k) (hk : k < ls.length) (hu : LvFr (R + 1) w u ls[k]) (u1 : Value) : LevsIn (w.setCell ⟨R, k, none⟩ u1) R (xs.set k u) ls (k + 1) := by
  intro i hi hik
  by_cases e : i = k
  · subst e; exact ⟨u, by rw [List.getElem?_set_self (by omega)], hu.set (by dsimp only; omega) _⟩
  · obtain ⟨u', h1, h2⟩ := h i hi (by omega)
    exact ⟨u', by rw [List.getElem?_set_ne (by omega)]; exact h1, h2.set (by dsimp only; omega) _⟩
theorem LevsIn.fr {w : World} {base R n cap : Nat} {e : TypeId} {xs : List Value} {ls : List (List Nd)} (h : w.ownsRow base e 1 (.slice (some ⟨R, 0, none⟩) n cap) n xs) (hn : n = ls.length) (hx : LevsIn w R xs ls ls.length) :
    Fr R w (fun w => LevsAt w (.slice (some ⟨R, 0, none⟩) n cap) ls) := by
  subst hn
  intro w' hw
  rcases h.2 with ⟨h', _⟩ | ⟨g', cap', cur, h', _, hg, hnc, hcm, hcs, htake⟩
  · simp at h'
  · simp only [Value.slice.injEq, Option.some.injEq, Addr.mk.injEq, and_true, true_and] at h'
    obtain ⟨rfl, rfl⟩ := h'
    refine ⟨_, _, rfl, hnc, hcm, fun _ => ⟨R, 0, rfl, fun i hi => ?_⟩⟩
    obtain ⟨u, h1, h2⟩ := hx i hi hi
    rw [Nat.zero_add]
    exact ⟨u, hw _ _ _ (Nat.le_refl _) (by rw [h.cellAt _ (by omega)]; exact h1), h2 w' (fun b o v hb => hw b o v (by omega))⟩

set_option maxHeartbeats 1000000 in
theorem toLevelS_fr (v : Value) (ls : List (List Nd)) (w : World) (hn : LevsAt w v ls) (hl : ls.length ≤ 1048576) (hkl : ∀ l ∈ ls, l.length ≤ 1048576 ∧ ∀ nd ∈ l, nd.kids.length ≤ 1048576) :
    Calls Tryz.prog 34 #[v] w fun e w' => ∃ g, e = .returned (.slice (some ⟨g, 0, none⟩) ls.length ls.length) ∧ Fr w.heap.size w' (fun w => LevsAt w (.slice (some ⟨g, 0, none⟩) ls.length ls.length) ls) ∧ w.heap.size ≤ g ∧ Below w.heap.size w w' := by
  obtain ⟨i0, hi, hz0, hz1, hz2⟩ := info_parts Tryz.info111
  obtain ⟨a, cap, rfl, hlc, hcm, hc⟩ := hn
  have HC : Hid (0 < ls.length → ∃ b off, a = some ⟨b, off, none⟩ ∧ ∀ i (h : i < ls.length), ∃ u, w.cell? ⟨b, off + i, none⟩ = some u ∧ NodesAt w u ls[i]) := hc
  have HK := hide hkl
  clear hc hkl
  go_enter Tryz.func34, Tryz.ntmps34
  go_wp2_with (at_make; refine wpList_make_full _ rfl _ _ 54 rfl w.heap.size 111 i0 (.agg #[.slice none 0 0]) 1 Tryz.underlying54 hi hz0 hz1 .i64 .i64 _ _ ls.length rfl rfl rfl rfl (by rw [hz2]; omega) (by unfold maxLen; omega) (Nat.le_refl _) ?_; intro w1 hown hgrow)
  go_loopw [4] (fun i wr => ∃ (k : Nat) (xs : List Value), k ≤ ls.length ∧ i = .int .i64 k ∧ wr.ownsRow w.heap.size 111 1 (.slice (some ⟨w.heap.size, 0, none⟩) ls.length ls.length) ls.length xs ∧ Hid (LevsIn wr w.heap.size xs ls k) ∧ w.heap.size < wr.heap.size ∧ Below w.heap.size w wr) (fun i _ => ls.length - (intOf i).toNat)
  case atStart => exact ⟨0, _, by omega, rfl, hown, fun j _ h => by omega, (hown.lt _ rfl).2, (Below.refl _ _).grown hgrow (Nat.le_refl _) (fun k hk => by cases hk)⟩
  case round =>
    obtain ⟨k, xs, hk, rfl, hownr, HX, hsz, hbel⟩ := hrel
    clear hown hgrow
    by_cases hlt : k < ls.length
    · obtain ⟨b, off, ha, hc⟩ := HC.out (by omega)
      subst ha
      obtain ⟨u, c1, hnu⟩ := hc k hlt
      obtain ⟨hkl1, hkl2⟩ := HK.out ls[k] (by simp)
      have c1' := keep_cell hbel c1
      have HNU := hide (hnu.keep hbel)
      have HKL := hide hkl2
      obtain ⟨ua, uc, rfl, _, _, _⟩ := hnu
      clear hc c1 hkl2
      go_wp2_with fail
      refine (toLevel_fr _ ls[k] _ HNU.out hkl1 HKL.out).mono ?_
      rintro e w2 ⟨g, rfl, hfr, hg, hb⟩
      have hown2 := row_keep hb hownr
      have HX2 := hide (HX.out.keep hb)
      have hbel2 : Below w.heap.size w w2 := hbel.trans (hb.mono hbel.size)
      have hxl := hown2.1
      have s1 := (hown2.stored k (.slice (some ⟨g, 0, none⟩) ls[k].length ls[k].length)).1
      have f1 := hown2.frozenAt k
      have e1 := hown2.cellAt k (by omega)
      rw [List.getElem?_eq_getElem (by omega)] at e1
      have hsz2 : w.heap.size < w2.heap.size := by have := hb.size; omega
      have HP := hide (HX2.out.put (u := .slice (some ⟨g, 0, none⟩) ls[k].length ls[k].length) (by omega) hlt (hfr.mono (by omega)) (.slice (some ⟨g, 0, none⟩) ls[k].length ls[k].length))
      clear HX2 HX hfr hown2 hownr hb c1'
      go_wp2_with fail
      go_roundw
      case rel => exact ⟨k + 1, _, by omega, by go_num, s1, HP, by simpa [World.setCell] using hsz2, hbel2.setCell (p := ⟨_, _, _⟩) (Nat.le_refl _) _⟩
      case measure => simp [intOf]; omega
    · have hall := LevsIn.fr hownr rfl (by have := HX.out; rwa [show k = ls.length from by omega] at this)
      go_wp2_with fail
      go_ret
      exact ⟨_, rfl, hall, Nat.le_refl _, hbel⟩
end Go.Proofs.YtbgibiongnhjoaaGreat
