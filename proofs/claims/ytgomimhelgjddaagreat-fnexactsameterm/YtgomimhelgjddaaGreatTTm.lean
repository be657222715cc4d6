/- What the counting of a term (szTerm and what it calls) answers. -/
import Derived.Test.YtgomimhelgjddaaGreatTSpA
import Derived.Test.YtgomimhelgjddaaGreatFew
namespace Go.Proofs.YtgomimhelgjddaaGreat
open Go.ChangeShapes Go.WideShapes Go.ChangeAt Go.RowKit

theorem leftOf_neg {left : Int} {n : Nat} (h : left < n) : leftOf left n = -1 := by rw [leftOf, if_pos h]
theorem leftOf_pos {left : Int} {n : Nat} (h : ¬ left < n) : leftOf left n = left - n := by rw [leftOf, if_neg h]

set_option maxHeartbeats 1000000 in
theorem szLevelS_any (v : Value) (ls : List (List Nd)) (left : Int) (w : World) (hls : LevsAt w v ls) (hsz : ∀ l ∈ ls, LvLens l) (h0 : 0 ≤ left) (h1 : left ≤ 1048576) :
    Calls Tryz.prog 66 #[v, .int .i64 left] w fun e w' => e = .returned (.int .i64 (leftOf left (ls.length + sumL lvSize ls))) ∧ Below w.heap.size w w' := by
  obtain ⟨a, cap, rfl, hlc, hcm, hnode⟩ := hls
  unfold maxLen at hcm
  by_cases h : left < ls.length
  · go_enter Tryz.func66, Tryz.ntmps66
    go_wp2_with fail
    go_ret
    exact ⟨ret_int (by rw [leftOf, if_pos (by omega)]), Below.refl _ _⟩
  have HN : Hid (0 < ls.length → ∃ b off, a = some ⟨b, off, none⟩ ∧ ∀ i (h : i < ls.length), ∃ u, w.cell? ⟨b, off + i, none⟩ = some u ∧ NodesAt w u ls[i]) := hnode
  have HZ : Hid (∀ l ∈ ls, LvLens l) := hsz
  have d0 : decide (left - (ls.length : Int) < 0) = false := by simp; omega
  clear hnode hsz
  go_enter Tryz.func66, Tryz.ntmps66
  go_wp2_with fail
  go_loopw [1, 5] (fun l i wr => ∃ k : Nat, k ≤ ls.length ∧ i = .int .i64 k ∧ (sumL lvSize (ls.take k) : Int) ≤ left - ls.length ∧ l = .int .i64 (left - ls.length - sumL lvSize (ls.take k)) ∧ Below w.heap.size w wr) (fun _ i _ => ls.length - (intOf i).toNat)
  case atStart => exact ⟨0, by omega, rfl, by simp [sumL]; omega, by simp [sumL], Below.refl _ _⟩
  case round =>
    obtain ⟨k, hk, rfl, hsum, rfl, hbel⟩ := hrel
    by_cases hlt : k < ls.length
    · obtain ⟨b, off, ha, hc⟩ := HN.out (by omega)
      subst ha
      obtain ⟨u, hu, hnu⟩ := hc k hlt
      have hsnoc := sumL_snoc lvSize ls k hlt
      have hsl := HZ.out ls[k] (by simp)
      have hle := sumL_le lvSize ls (k + 1)
      generalize ls[k] = ns at *
      have hu' := keep_cell hbel hu
      have hnu' := hnu.keep hbel
      have HNU := hide hnu'
      obtain ⟨ua, uc, rfl, _, _, _⟩ := hnu'
      have HS : Hid (sumL lvSize (ls.take (k + 1)) = sumL lvSize (ls.take k) + (ns.length + nsSum ns)) := hsnoc
      have HSL := hide hsl
      clear hsnoc hc hu hnu hsl
      obtain ⟨L, hL⟩ : ∃ L : Int, L = left - ls.length - sumL lvSize (ls.take k) := ⟨_, rfl⟩
      rw [← hL]
      have hL0 : 0 ≤ L := by omega
      have hL1 : L ≤ 1048576 := by omega
      have HLL : Hid (L = left - ls.length - sumL lvSize (ls.take k)) := hL
      clear hL
      by_cases h3 : L < (ns.length + nsSum ns : Nat)
      · have HL : Hid (leftOf L (ns.length + nsSum ns) = -1) := leftOf_neg h3
        clear h3
        go_wp2_with (go_at_call 114; refine (szLevel_any _ ns _ _ HNU.out HSL.out hL0 hL1).mono ?_; rintro e w' ⟨rfl, hb2⟩; rw [HL.out])
        go_ret
        have := HLL.out; have := HS.out; have h3 := HL.out
        exact ⟨ret_int (by rw [leftOf, if_pos (by unfold leftOf at h3; split at h3 <;> omega)]), hbel.trans (hb2.mono hbel.size)⟩
      · obtain ⟨M, hM⟩ : ∃ M : Int, M = L - (ns.length + nsSum ns : Nat) := ⟨_, rfl⟩
        have HL : Hid (leftOf L (ns.length + nsSum ns) = M) := by show _ = _; rw [leftOf_pos h3, hM]
        have hge : 0 ≤ M := by omega
        have HM := hide hM
        clear h3 hM
        go_wp2_with (go_at_call 114; refine (szLevel_any _ ns _ _ HNU.out HSL.out hL0 hL1).mono ?_; rintro e w' ⟨rfl, hb2⟩; rw [HL.out])
        go_roundw
        case rel =>
          have := HLL.out; have := HS.out; have := HM.out
          exact ⟨k + 1, by omega, by go_num, by omega, by rw [show M = left - ls.length - sumL lvSize (ls.take (k + 1)) from by omega], hbel.trans (hb2.mono hbel.size)⟩
        case measure => simp [intOf]; omega
    · have hke : ls.take k = ls := List.take_of_length_le (by omega)
      rw [hke] at hsum ⊢
      clear hke
      go_wp2_with fail
      go_ret
      exact ⟨ret_int (by rw [leftOf, if_neg (by omega)]; omega), hbel⟩

set_option maxHeartbeats 1000000 in
theorem szNode_any (td : Td) (lv kv : Value) (left : Int) (w : World) (hs : TLens td) (hl : LevsAt w lv td.lv) (hk : IntsAt w kv td.kids) (h0 : 0 ≤ left) (h1 : left ≤ 1048576) :
    Calls Tryz.prog 43 #[.agg #[.int .i64 td.k, .int .i64 td.n, .int .i64 td.m, .string td.s, lv, kv], .int .i64 left] w fun e w' => e = .returned (.int .i64 (leftOf left (tdSize td))) ∧ Below w.heap.size w w' := by
  obtain ⟨hs1, hs2⟩ := hs
  unfold maxLen at hs1
  have HS2 := hide hs2
  clear hs2
  have HLV : Hid (∀ o, LevsAt (w.alloc o) lv td.lv) := fun o => hl.keep (((Below.refl w.heap.size w).alloc (Nat.le_refl _) o))
  have HKV : Hid (∀ o, IntsAt (w.alloc o) kv td.kids) := fun o => hk.keep (((Below.refl w.heap.size w).alloc (Nat.le_refl _) o))
  obtain ⟨la, lc, rfl, _, _, _⟩ := hl
  obtain ⟨ka, kc, rfl, _, _, _⟩ := hk
  by_cases h : left < td.s.size
  · go_enter Tryz.func43, Tryz.ntmps43
    go_wp2_with fail
    go_ret
    exact ⟨ret_int (by rw [leftOf, if_pos (by unfold tdSize; omega)]), (Below.refl _ _).alloc (Nat.le_refl _) _⟩
  obtain ⟨L, hL⟩ : ∃ L : Int, left - td.s.size = L := ⟨_, rfl⟩
  have hL0 : 0 ≤ L := by omega
  have hL1 : L ≤ 1048576 := by omega
  have d0 : decide (L < 0) = false := by simp; omega
  have hwL : IntKind.i64.wrap L = L := by rw [IntKind.wrap_i64]; omega
  by_cases h2 : L < (td.lv.length + sumL lvSize td.lv : Nat)
  · have HL : Hid (leftOf L (td.lv.length + sumL lvSize td.lv) = -1) := leftOf_neg h2
    have HF : Hid (leftOf left (tdSize td) = -1) := leftOf_neg (by unfold tdSize; omega)
    rw [HF.out]
    clear h h2
    go_enter Tryz.func43, Tryz.ntmps43
    go_wp2_with (go_at_call 66; refine (szLevelS_any _ td.lv _ _ (HLV.out _) HS2.out hL0 hL1).mono ?_; rintro e w1 ⟨rfl, hb1⟩; rw [HL.out])
    go_ret
    exact ⟨rfl, ((Below.refl _ _).alloc (Nat.le_refl _) _).trans (hb1.mono (by simp))⟩
  obtain ⟨M, hM⟩ : ∃ M : Int, M = L - (td.lv.length + sumL lvSize td.lv : Nat) := ⟨_, rfl⟩
  have HL : Hid (leftOf L (td.lv.length + sumL lvSize td.lv) = M) := by show _ = _; rw [leftOf_pos h2, hM]
  have hM0 : 0 ≤ M := by omega
  have hM1 : M ≤ 1048576 := by omega
  by_cases h3 : M < (td.kids.length : Nat)
  · have HL2 : Hid (leftOf M td.kids.length = -1) := leftOf_neg h3
    have HF : Hid (leftOf left (tdSize td) = -1) := leftOf_neg (by unfold tdSize; omega)
    rw [HF.out]
    clear h h2 h3 hM
    go_enter Tryz.func43, Tryz.ntmps43
    go_wp2_with fail
    refine (szLevelS_any _ td.lv _ _ (HLV.out _) HS2.out hL0 hL1).mono ?_
    rintro e w1 ⟨rfl, hb1⟩
    rw [HL.out]
    have hx : w1.cell? ⟨w.heap.size, 5, none⟩ = some (.slice ka td.kids.length kc) := keep_cell hb1 (by simp [go_sem])
    have HB1 := hide hb1
    clear hb1
    go_wp2_with (go_at_call 67; refine (szIntS_any _ td.kids _ _ ((HKV.out _).keep HB1.out) hM0 hM1).mono ?_; rintro e w2 ⟨rfl, rfl⟩; rw [HL2.out])
    go_ret
    exact ⟨rfl, ((Below.refl _ _).alloc (Nat.le_refl _) _).trans (HB1.out.mono (by simp))⟩
  obtain ⟨Q, hQ⟩ : ∃ Q : Int, Q = M - (td.kids.length : Nat) := ⟨_, rfl⟩
  have HL2 : Hid (leftOf M td.kids.length = Q) := by show _ = _; rw [leftOf_pos h3, hQ]
  have HF : Hid (leftOf left (tdSize td) = Q) := by show _ = _; rw [leftOf_pos (by unfold tdSize; omega)]; unfold tdSize; omega
  have hQ0 : 0 ≤ Q := by omega
  rw [HF.out]
  clear h h2 h3 hM hQ
  go_enter Tryz.func43, Tryz.ntmps43
  go_wp2_with fail
  refine (szLevelS_any _ td.lv _ _ (HLV.out _) HS2.out hL0 hL1).mono ?_
  rintro e w1 ⟨rfl, hb1⟩
  rw [HL.out]
  have hx : w1.cell? ⟨w.heap.size, 5, none⟩ = some (.slice ka td.kids.length kc) := keep_cell hb1 (by simp [go_sem])
  have HB1 := hide hb1
  clear hb1
  go_wp2_with (go_at_call 67; refine (szIntS_any _ td.kids _ _ ((HKV.out _).keep HB1.out) hM0 hM1).mono ?_; rintro e w2 ⟨rfl, rfl⟩; rw [HL2.out])
  go_ret
  exact ⟨rfl, ((Below.refl _ _).alloc (Nat.le_refl _) _).trans (HB1.out.mono (by simp))⟩

set_option maxHeartbeats 1000000 in
theorem szNodeS_any (v : Value) (ts : List Td) (left : Int) (w : World) (hns : TNodesAt w v ts) (hsz : ∀ td ∈ ts, TLens td) (h0 : 0 ≤ left) (h1 : left ≤ 1048576) :
    Calls Tryz.prog 22 #[v, .int .i64 left] w fun e w' => e = .returned (.int .i64 (leftOf left (tmSize ts))) ∧ Below w.heap.size w w' := by
  unfold tmSize
  obtain ⟨a, cap, rfl, hlc, hcm, hnode⟩ := hns
  unfold maxLen at hcm
  by_cases h : left < ts.length
  · go_enter Tryz.func22, Tryz.ntmps22
    go_wp2_with fail
    go_ret
    exact ⟨ret_int (by rw [leftOf, if_pos (by omega)]), Below.refl _ _⟩
  have HN : Hid (0 < ts.length → ∃ b off, a = some ⟨b, off, none⟩ ∧ ∀ i (h : i < ts.length), TNodeAt w b (off + i * 6) ts[i]) := hnode
  have HZ : Hid (∀ td ∈ ts, TLens td) := hsz
  have d0 : decide (left - (ts.length : Int) < 0) = false := by simp; omega
  clear hnode hsz
  go_enter Tryz.func22, Tryz.ntmps22
  go_wp2_with fail
  go_loopw [1, 5] (fun l i wr => ∃ k : Nat, k ≤ ts.length ∧ i = .int .i64 k ∧ (sumL tdSize (ts.take k) : Int) ≤ left - ts.length ∧ l = .int .i64 (left - ts.length - sumL tdSize (ts.take k)) ∧ Below w.heap.size w wr) (fun _ i _ => ts.length - (intOf i).toNat)
  case atStart => exact ⟨0, by omega, rfl, by simp [sumL]; omega, by simp [sumL], Below.refl _ _⟩
  case round =>
    obtain ⟨k, hk, rfl, hsum, rfl, hbel⟩ := hrel
    by_cases hlt : k < ts.length
    · obtain ⟨b, off, ha, hc⟩ := HN.out (by omega)
      subst ha
      obtain ⟨c1, c2, c3, c4, lv, c5, hlv, kv, c6, hkv⟩ := (hc k hlt).keep (Below.refl _ _)
      have hsnoc := sumL_snoc tdSize ts k hlt
      have hsl := HZ.out ts[k] (by simp)
      have hle := sumL_le tdSize ts (k + 1)
      generalize ts[k] = td at *
      have c1' := keep_cell hbel c1
      have c2' := keep_cell hbel c2
      have c3' := keep_cell hbel c3
      have c4' := keep_cell hbel c4
      have c5' := keep_cell hbel c5
      have c6' := keep_cell hbel c6
      have HLV := hide (hlv.keep hbel)
      have HKV := hide (hkv.keep hbel)
      have HSL := hide hsl
      have HS : Hid (sumL tdSize (ts.take (k + 1)) = sumL tdSize (ts.take k) + tdSize td) := hsnoc
      clear hsnoc hc c1 c2 c3 c4 c5 c6 hsl
      obtain ⟨la, lc, rfl, _, _, _⟩ := hlv
      obtain ⟨ka, kc, rfl, _, _, _⟩ := hkv
      obtain ⟨L, hL⟩ : ∃ L : Int, L = left - ts.length - sumL tdSize (ts.take k) := ⟨_, rfl⟩
      rw [← hL]
      have hL0 : 0 ≤ L := by omega
      have hL1 : L ≤ 1048576 := by omega
      have HLL : Hid (L = left - ts.length - sumL tdSize (ts.take k)) := hL
      clear hL
      by_cases h3 : L < (tdSize td : Nat)
      · have HL : Hid (leftOf L (tdSize td) = -1) := leftOf_neg h3
        have HH3 := hide h3
        clear h3
        go_wp2_with (go_at_call 43; refine (szNode_any td _ _ _ _ HSL.out HLV.out HKV.out hL0 hL1).mono ?_; rintro e w' ⟨rfl, hb2⟩; rw [HL.out])
        go_ret
        have := HLL.out; have := HS.out; have := HH3.out
        exact ⟨ret_int (by rw [leftOf, if_pos (by omega)]), hbel.trans (hb2.mono hbel.size)⟩
      · obtain ⟨M, hM⟩ : ∃ M : Int, M = L - (tdSize td : Nat) := ⟨_, rfl⟩
        have HL : Hid (leftOf L (tdSize td) = M) := by show _ = _; rw [leftOf_pos h3, hM]
        have hge : 0 ≤ M := by omega
        have HM := hide hM
        clear h3 hM
        go_wp2_with (go_at_call 43; refine (szNode_any td _ _ _ _ HSL.out HLV.out HKV.out hL0 hL1).mono ?_; rintro e w' ⟨rfl, hb2⟩; rw [HL.out])
        go_roundw
        case rel =>
          have := HLL.out; have := HS.out; have := HM.out
          exact ⟨k + 1, by omega, by go_num, by omega, by rw [show M = left - ts.length - sumL tdSize (ts.take (k + 1)) from by omega], hbel.trans (hb2.mono hbel.size)⟩
        case measure => simp [intOf]; omega
    · have hke : ts.take k = ts := List.take_of_length_le (by omega)
      rw [hke] at hsum ⊢
      clear hke
      go_wp2_with fail
      go_ret
      exact ⟨ret_int (by rw [leftOf, if_neg (by omega)]; omega), hbel⟩

set_option maxHeartbeats 1000000 in
theorem szTerm_any (v : Value) (ts : List Td) (left : Int) (w : World) (hns : TNodesAt w v ts) (hsz : ∀ td ∈ ts, TLens td) (h0 : 0 ≤ left) (h1 : left ≤ 1048576) :
    Calls Tryz.prog 6 #[.agg #[v], .int .i64 left] w fun e w' => e = .returned (.int .i64 (leftOf left (tmSize ts))) ∧ Below w.heap.size w w' := by
  have HN : Hid (∀ o, TNodesAt (w.alloc o) v ts) := fun o => hns.keep ((Below.refl w.heap.size w).alloc (Nat.le_refl _) o)
  have HZ := hide hsz
  obtain ⟨a, cap, rfl, hlc, hcm, _⟩ := hns
  clear hsz
  by_cases h : left < (tmSize ts : Nat)
  · have HL : Hid (leftOf left (tmSize ts) = -1) := leftOf_neg h
    clear h
    rw [HL.out]
    go_enter Tryz.func6, Tryz.ntmps6
    go_wp2_with (go_at_call 22; refine (szNodeS_any _ ts _ _ (HN.out _) HZ.out h0 h1).mono ?_; rintro e w' ⟨rfl, hb2⟩; rw [HL.out])
    go_ret
    exact ⟨rfl, ((Below.refl _ _).alloc (Nat.le_refl _) _).trans (hb2.mono (by simp))⟩
  · obtain ⟨M, hM⟩ : ∃ M : Int, M = left - (tmSize ts : Nat) := ⟨_, rfl⟩
    have hM0 : 0 ≤ M := by omega
    have HM : Hid (leftOf left (tmSize ts) = M) := by show leftOf _ _ = _; rw [leftOf_pos h, hM]
    clear h hM
    rw [HM.out]
    go_enter Tryz.func6, Tryz.ntmps6
    go_wp2_with (go_at_call 22; refine (szNodeS_any _ ts _ _ (HN.out _) HZ.out h0 h1).mono ?_; rintro e w' ⟨rfl, hb2⟩; rw [HM.out])
    go_ret
    exact ⟨rfl, ((Below.refl _ _).alloc (Nat.le_refl _) _).trans (hb2.mono (by simp))⟩
end Go.Proofs.YtgomimhelgjddaaGreat

/- What the copying of a term (toTerm and what it calls) answers: a new term with the same nodes; nothing that was there is written. -/
namespace Go.Proofs.YtgomimhelgjddaaGreat
open Go.ChangeShapes Go.WideShapes Go.ChangeAt Go.RowKit

/-- What holds in every world that keeps the cells of the blocks from B on. -/
def Fr (B : Nat) (w : World) (P : World → Prop) : Prop := ∀ w' : World, (∀ b o v, B ≤ b → w.cell? ⟨b, o, none⟩ = some v → w'.cell? ⟨b, o, none⟩ = some v) → P w'
theorem Fr.at {B : Nat} {w : World} {P : World → Prop} (h : Fr B w P) : P w := h w (fun _ _ _ _ h => h)
theorem Fr.set {B : Nat} {w : World} {P : World → Prop} (h : Fr B w P) {p : Addr} (hp : p.block < B) (u : Value) : Fr B (w.setCell p u) P :=
  fun w' hw => h w' (fun b o v hb hv => hw b o v hb (by rw [cell_set (by omega)]; exact hv))
theorem Fr.mono {B B' : Nat} {w : World} {P : World → Prop} (h : Fr B w P) (hB : B' ≤ B) : Fr B' w P := fun w' hw => h w' (fun b o v hb => hw b o v (by omega))
theorem Fr.keep {B : Nat} {w w' : World} {P : World → Prop} (h : Fr B w P) (hb : Below w.heap.size w w') : Fr B w' P := fun w2 hw => h w2 (fun b o v hB hv => hw b o v hB (keep_cell hb hv))
theorem Fr.drewN {B : Nat} {w : World} {P : World → Prop} (h : Fr B w P) (n : Nat) : Fr B (w.drewN n) P := h
abbrev LvFr (B : Nat) (w : World) (v : Value) (ns : List Nd) : Prop := Fr B w (fun w => NodesAt w v ns)
theorem IntsAt.some {w w' : World} {g n cap : Nat} {ks : List Int} (h : IntsAt w (.slice (some ⟨g, 0, none⟩) n cap) ks) (hc : ∀ o u, w.cell? ⟨g, o, none⟩ = some u → w'.cell? ⟨g, o, none⟩ = some u) : IntsAt w' (.slice (some ⟨g, 0, none⟩) n cap) ks := by
  obtain ⟨a, c, hv, h1, h2, h3⟩ := h
  refine ⟨a, c, hv, h1, h2, fun h0 => ?_⟩
  obtain ⟨b, off, ha, hcc⟩ := h3 h0
  subst ha
  simp only [Value.slice.injEq, Option.some.injEq, Addr.mk.injEq] at hv
  obtain ⟨⟨rfl, _, _⟩, _⟩ := hv
  exact ⟨g, off, rfl, fun j hj => hc _ _ (hcc j hj)⟩
theorem NodesIn.fr {w : World} {base R n cap : Nat} {e : TypeId} {xs : List Value} {ns : List Nd} (h : w.ownsRow base e 3 (.slice (some ⟨R, 0, none⟩) n cap) n xs) (hn : n = ns.length) (hx : NodesIn w R xs ns ns.length) :
    LvFr R w (.slice (some ⟨R, 0, none⟩) n cap) ns := by
  subst hn
  intro w' hw
  rcases h.2 with ⟨h', _⟩ | ⟨g', cap', cur, h', _, hg, hnc, hcm, hcs, htake⟩
  · simp at h'
  · simp only [Value.slice.injEq, Option.some.injEq, Addr.mk.injEq, and_true, true_and] at h'
    obtain ⟨rfl, rfl⟩ := h'
    refine ⟨_, _, rfl, hnc, hcm, fun _ => ⟨R, 0, rfl, fun i hi => ?_⟩⟩
    obtain ⟨h1, h2, g, h3, h4, h5⟩ := hx i hi hi
    rw [Nat.zero_add]
    exact ⟨hw _ _ _ (Nat.le_refl _) (by rw [h.cellAt _ (by omega)]; exact h1), hw _ _ _ (Nat.le_refl _) (by rw [h.cellAt _ (by omega)]; exact h2), _, hw _ _ _ (Nat.le_refl _) (by rw [h.cellAt _ (by omega)]; exact h4), h5.some (fun o u => hw _ _ u (by omega))⟩

set_option maxHeartbeats 1000000 in
theorem toLNodeS_fr (v : Value) (ns : List Nd) (w : World) (hn : NodesAt w v ns) (hl : ns.length ≤ 1048576) (hkl : ∀ nd ∈ ns, nd.kids.length ≤ 1048576) :
    Calls Tryz.prog 147 #[v] w fun e w' => ∃ g, e = .returned (.slice (some ⟨g, 0, none⟩) ns.length ns.length) ∧ LvFr w.heap.size w' (.slice (some ⟨g, 0, none⟩) ns.length ns.length) ns ∧ w.heap.size ≤ g ∧ Below w.heap.size w w' := by
  obtain ⟨i0, hi, hz0, hz1, hz2⟩ := info_parts Tryz.info97
  obtain ⟨a, cap, rfl, hlc, hcm, hc⟩ := hn
  have HC : Hid (0 < ns.length → ∃ b off, a = some ⟨b, off, none⟩ ∧ ∀ i (h : i < ns.length), NodeAt w b (off + i * 3) ns[i]) := hc
  have HK : Hid (∀ nd ∈ ns, nd.kids.length ≤ 1048576) := hkl
  clear hc hkl
  go_enter Tryz.func147, Tryz.ntmps147
  go_wp2_with (at_make; refine wpList_make_full _ rfl _ _ 57 rfl w.heap.size 97 i0 (.agg #[.int .i64 0, .string ⟨#[]⟩, .slice none 0 0]) 3 Tryz.underlying57 hi hz0 hz1 .i64 .i64 _ _ ns.length rfl rfl rfl rfl (by rw [hz2]; omega) (by unfold maxLen; omega) (Nat.le_refl _) ?_; intro w1 hown hgrow)
  go_loopw [4] (fun i wr => ∃ (k : Nat) (xs : List Value), k ≤ ns.length ∧ i = .int .i64 k ∧ wr.ownsRow w.heap.size 97 3 (.slice (some ⟨w.heap.size, 0, none⟩) ns.length ns.length) ns.length xs ∧ Hid (NodesIn wr w.heap.size xs ns k) ∧ w.heap.size < wr.heap.size ∧ Below w.heap.size w wr) (fun i _ => ns.length - (intOf i).toNat)
  case atStart => exact ⟨0, _, by omega, rfl, hown, fun j _ h => by omega, (hown.lt _ rfl).2, (Below.refl _ _).grown hgrow (Nat.le_refl _) (fun k hk => by cases hk)⟩
  case round =>
    obtain ⟨k, xs, hk, rfl, hownr, HX, hsz, hbel⟩ := hrel
    clear hown hgrow
    by_cases hlt : k < ns.length
    · obtain ⟨b, off, ha, hc⟩ := HC.out (by omega)
      subst ha
      obtain ⟨c1, c2, kv, c3, hkv⟩ := hc k hlt
      have hkl := HK.out ns[k] (by simp)
      have c1' := hbel.cell (p := ⟨b, off + k * 3, none⟩) (lt_cell c1)
      have c2' := hbel.cell (p := ⟨b, off + k * 3 + 1, none⟩) (lt_cell c2)
      have c3' := hbel.cell (p := ⟨b, off + k * 3 + 2, none⟩) (lt_cell c3)
      rw [c1] at c1'
      rw [c2] at c2'
      rw [c3] at c3'
      have hkv' := hkv.keep hbel
      clear hc c1 c2 c3 hkv
      go_wp2_with fail
      refine (toLNode_any ns[k] kv _ hkv' hkl).mono ?_
      rintro e w2 ⟨g, rfl, hints, hg, hb⟩
      have hown2 := row_keep hb hownr
      have HX2 : Hid (NodesIn w2 w.heap.size xs ns k) := HX.out.keep hb
      have hbel2 : Below w.heap.size w w2 := hbel.trans (hb.mono hbel.size)
      have hxl := hown2.1
      have hput := HX2.out.put hxl hlt (by omega) hints (.int .i64 ns[k].k) (.string ns[k].s) (.slice (some ⟨g, 0, none⟩) ns[k].kids.length ns[k].kids.length)
      have s1 := (hown2.stored (k * 3) (.int .i64 ns[k].k)).1
      have s2 := (s1.stored (k * 3 + 1) (.string ns[k].s)).1
      have s3 := (s2.stored (k * 3 + 2) (.slice (some ⟨g, 0, none⟩) ns[k].kids.length ns[k].kids.length)).1
      have f1 := hown2.frozenAt (k * 3)
      have f2 := hown2.frozenAt (k * 3 + 1)
      have f3 := hown2.frozenAt (k * 3 + 2)
      have e1 := hown2.cellAt (k * 3) (by omega)
      have e2 := hown2.cellAt (k * 3 + 1) (by omega)
      have e3 := hown2.cellAt (k * 3 + 2) (by omega)
      rw [List.getElem?_eq_getElem (by omega)] at e1 e2 e3
      have hsz2 : w.heap.size < w2.heap.size := by have := hb.size; omega
      have HP : Hid (NodesIn (((w2.setCell ⟨w.heap.size, k * 3, none⟩ (.int .i64 ns[k].k)).setCell ⟨w.heap.size, k * 3 + 1, none⟩ (.string ns[k].s)).setCell ⟨w.heap.size, k * 3 + 2, none⟩ (.slice (some ⟨g, 0, none⟩) ns[k].kids.length ns[k].kids.length)) w.heap.size _ ns (k + 1)) := hput
      clear hput HX2 HX hints hown2 hownr s1 s2 hb c1' c2' c3' hkv'
      go_wp2_with fail
      go_roundw
      case rel => exact ⟨k + 1, _, by omega, by go_num, s3, HP, by simpa [World.setCell] using hsz2, ((hbel2.setCell (p := ⟨_, _, _⟩) (Nat.le_refl _) _).setCell (p := ⟨_, _, _⟩) (Nat.le_refl _) _).setCell (p := ⟨_, _, _⟩) (Nat.le_refl _) _⟩
      case measure => simp [intOf]; omega
    · have hall := NodesIn.fr hownr rfl (by have := HX.out; rwa [show k = ns.length from by omega] at this)
      go_wp2_with fail
      go_ret
      exact ⟨_, rfl, hall, Nat.le_refl _, hbel⟩

set_option maxHeartbeats 1000000 in
theorem toLevel_fr (v : Value) (ns : List Nd) (w : World) (hn : NodesAt w v ns) (hl : ns.length ≤ 1048576) (hkl : ∀ nd ∈ ns, nd.kids.length ≤ 1048576) :
    Calls Tryz.prog 119 #[.agg #[v]] w fun e w' => ∃ g, e = .returned (.agg #[.slice (some ⟨g, 0, none⟩) ns.length ns.length]) ∧ LvFr w.heap.size w' (.slice (some ⟨g, 0, none⟩) ns.length ns.length) ns ∧ w.heap.size ≤ g ∧ Below w.heap.size w w' := by
  have HN : Hid (∀ o1 o2 o3, NodesAt (((w.alloc o1).alloc o2).alloc o3) v ns) := fun o1 o2 o3 => hn.keep ((((Below.refl w.heap.size w).alloc (Nat.le_refl _) o1).alloc (by simp) o2).alloc (by simp; omega) o3)
  have HK : Hid (∀ nd ∈ ns, nd.kids.length ≤ 1048576) := hkl
  obtain ⟨a, cap, rfl, hlc, hcm, _⟩ := hn
  clear hkl
  go_enter Tryz.func119, Tryz.ntmps119
  go_wp2_with fail
  refine (toLNodeS_fr _ ns _ (HN.out _ _ _) hl HK.out).mono ?_
  rintro e w1 ⟨g, rfl, hnodes, hg, hb⟩
  obtain ⟨hc, hf⟩ := bcell hb
  have hz : w.heap.size + 1 + 1 < w1.heap.size := by have := hb.size; simp at this; omega
  have hbel : Below w.heap.size w w1 := ((((Below.refl w.heap.size w).alloc (Nat.le_refl _) _).alloc (by simp) _).alloc (by simp; omega) _).trans (hb.mono (by simp; omega))
  simp only [World.size_alloc] at hc hf hg
  clear hb
  go_wp2_with fail
  refine bodyPost_ret (v := .agg #[.slice (some ⟨g, 0, none⟩) ns.length ns.length]) (by simp [results, Tryz.results119, go_sem, hc]) rfl ⟨g, rfl, ?_, by omega, ?_⟩
  · exact ((hnodes.set (p := ⟨_, _, _⟩) (by simp) _).set (p := ⟨_, _, _⟩) (by simp) _).mono (by simp; omega)
  · exact (hbel.setCell (p := ⟨_, _, _⟩) (by show _ ≤ w.heap.size + 1 + 1; omega) _).setCell (p := ⟨_, _, _⟩) (by show _ ≤ w.heap.size + 1; omega) _

theorem Tryz.info59 : (Tryz.prog.info? 59).map (fun i => (i.zero, i.size, i.bytes)) = some (some (.agg #[.slice none 0 0]), 1, 24) := by kernel_rfl
/-- The first k levels stand in the row R, their nodes in blocks behind it. -/
def LevsIn (w : World) (R : Nat) (xs : List Value) (ls : List (List Nd)) (k : Nat) : Prop :=
  ∀ i (h : i < ls.length), i < k → ∃ u, xs[i]? = some u ∧ LvFr (R + 1) w u ls[i]
theorem LevsIn.keep {w w' : World} (hb : Below w.heap.size w w') {R : Nat} {xs : List Value} {ls : List (List Nd)} {k : Nat} (h : LevsIn w R xs ls k) : LevsIn w' R xs ls k := fun i hi hk => by
  obtain ⟨u, h1, h2⟩ := h i hi hk
  exact ⟨u, h1, h2.keep hb⟩
theorem LevsIn.put {w : World} {R : Nat} {xs : List Value} {ls : List (List Nd)} {k : Nat} {u : Value} (hx : xs.length = ls.length) (h : LevsIn w R xs ls k) (hk : k < ls.length) (hu : LvFr (R + 1) w u ls[k]) (u1 : Value) : LevsIn (w.setCell ⟨R, k, none⟩ u1) R (xs.set k u) ls (k + 1) := by
  intro i hi hik
  by_cases e : i = k
  · subst e; exact ⟨u, by rw [List.getElem?_set_self (by omega)], hu.set (by dsimp only; omega) _⟩
  · obtain ⟨u', h1, h2⟩ := h i hi (by omega)
    exact ⟨u', by rw [List.getElem?_set_ne (by omega)]; exact h1, h2.set (by dsimp only; omega) _⟩
theorem LevsIn.fr {w : World} {base R n cap : Nat} {e : TypeId} {xs : List Value} {ls : List (List Nd)} (h : w.ownsRow base e 1 (.slice (some ⟨R, 0, none⟩) n cap) n xs) (hn : n = ls.length) (hx : LevsIn w R xs ls ls.length) :
    Fr R w (fun w => LevsAt w (.slice (some ⟨R, 0, none⟩) n cap) ls) := by
  subst hn
  intro w' hw
  rcases h.2 with ⟨h', _⟩ | ⟨g', cap', cur, h', _, hg, hnc, hcm, hcs, htake⟩
  · simp at h'
  · simp only [Value.slice.injEq, Option.some.injEq, Addr.mk.injEq, and_true, true_and] at h'
    obtain ⟨rfl, rfl⟩ := h'
    refine ⟨_, _, rfl, hnc, hcm, fun _ => ⟨R, 0, rfl, fun i hi => ?_⟩⟩
    obtain ⟨u, h1, h2⟩ := hx i hi hi
    rw [Nat.zero_add]
    exact ⟨u, hw _ _ _ (Nat.le_refl _) (by rw [h.cellAt _ (by omega)]; exact h1), h2 w' (fun b o v hb => hw b o v (by omega))⟩

set_option maxHeartbeats 1000000 in
theorem toLevelS_fr (v : Value) (ls : List (List Nd)) (w : World) (hn : LevsAt w v ls) (hl : ls.length ≤ 1048576) (hkl : ∀ l ∈ ls, l.length ≤ 1048576 ∧ ∀ nd ∈ l, nd.kids.length ≤ 1048576) :
    Calls Tryz.prog 72 #[v] w fun e w' => ∃ g, e = .returned (.slice (some ⟨g, 0, none⟩) ls.length ls.length) ∧ Fr w.heap.size w' (fun w => LevsAt w (.slice (some ⟨g, 0, none⟩) ls.length ls.length) ls) ∧ w.heap.size ≤ g ∧ Below w.heap.size w w' := by
  obtain ⟨i0, hi, hz0, hz1, hz2⟩ := info_parts Tryz.info59
  obtain ⟨a, cap, rfl, hlc, hcm, hc⟩ := hn
  have HC : Hid (0 < ls.length → ∃ b off, a = some ⟨b, off, none⟩ ∧ ∀ i (h : i < ls.length), ∃ u, w.cell? ⟨b, off + i, none⟩ = some u ∧ NodesAt w u ls[i]) := hc
  have HK := hide hkl
  clear hc hkl
  go_enter Tryz.func72, Tryz.ntmps72
  go_wp2_with (at_make; refine wpList_make_full _ rfl _ _ 49 rfl w.heap.size 59 i0 (.agg #[.slice none 0 0]) 1 Tryz.underlying49 hi hz0 hz1 .i64 .i64 _ _ ls.length rfl rfl rfl rfl (by rw [hz2]; omega) (by unfold maxLen; omega) (Nat.le_refl _) ?_; intro w1 hown hgrow)
  go_loopw [4] (fun i wr => ∃ (k : Nat) (xs : List Value), k ≤ ls.length ∧ i = .int .i64 k ∧ wr.ownsRow w.heap.size 59 1 (.slice (some ⟨w.heap.size, 0, none⟩) ls.length ls.length) ls.length xs ∧ Hid (LevsIn wr w.heap.size xs ls k) ∧ w.heap.size < wr.heap.size ∧ Below w.heap.size w wr) (fun i _ => ls.length - (intOf i).toNat)
  case atStart => exact ⟨0, _, by omega, rfl, hown, fun j _ h => by omega, (hown.lt _ rfl).2, (Below.refl _ _).grown hgrow (Nat.le_refl _) (fun k hk => by cases hk)⟩
  case round =>
    obtain ⟨k, xs, hk, rfl, hownr, HX, hsz, hbel⟩ := hrel
    clear hown hgrow
    by_cases hlt : k < ls.length
    · obtain ⟨b, off, ha, hc⟩ := HC.out (by omega)
      subst ha
      obtain ⟨u, c1, hnu⟩ := hc k hlt
      obtain ⟨hkl1, hkl2⟩ := HK.out ls[k] (by simp)
      have c1' := keep_cell hbel c1
      have HNU := hide (hnu.keep hbel)
      have HKL := hide hkl2
      obtain ⟨ua, uc, rfl, _, _, _⟩ := hnu
      clear hc c1 hkl2
      go_wp2_with fail
      refine (toLevel_fr _ ls[k] _ HNU.out hkl1 HKL.out).mono ?_
      rintro e w2 ⟨g, rfl, hfr, hg, hb⟩
      have hown2 := row_keep hb hownr
      have HX2 := hide (HX.out.keep hb)
      have hbel2 : Below w.heap.size w w2 := hbel.trans (hb.mono hbel.size)
      have hxl := hown2.1
      have s1 := (hown2.stored k (.slice (some ⟨g, 0, none⟩) ls[k].length ls[k].length)).1
      have f1 := hown2.frozenAt k
      have e1 := hown2.cellAt k (by omega)
      rw [List.getElem?_eq_getElem (by omega)] at e1
      have hsz2 : w.heap.size < w2.heap.size := by have := hb.size; omega
      have HP := hide (HX2.out.put (u := .slice (some ⟨g, 0, none⟩) ls[k].length ls[k].length) (by omega) hlt (hfr.mono (by omega)) (.slice (some ⟨g, 0, none⟩) ls[k].length ls[k].length))
      clear HX2 HX hfr hown2 hownr hb c1'
      go_wp2_with fail
      go_roundw
      case rel => exact ⟨k + 1, _, by omega, by go_num, s1, HP, by simpa [World.setCell] using hsz2, hbel2.setCell (p := ⟨_, _, _⟩) (Nat.le_refl _) _⟩
      case measure => simp [intOf]; omega
    · have hall := LevsIn.fr hownr rfl (by have := HX.out; rwa [show k = ls.length from by omega] at this)
      go_wp2_with fail
      go_ret
      exact ⟨_, rfl, hall, Nat.le_refl _, hbel⟩
end Go.Proofs.YtgomimhelgjddaaGreat

/- What the copying of a term (toTerm and what it calls) answers: a new term with the same nodes; nothing that was there is written. -/
namespace Go.Proofs.YtgomimhelgjddaaGreat
open Go.ChangeShapes Go.WideShapes Go.ChangeAt Go.RowKit

theorem ints_fr {B : Nat} {w : World} {g n cap : Nat} {ks : List Int} (h : IntsAt w (.slice (some ⟨g, 0, none⟩) n cap) ks) (hB : B ≤ g) : Fr B w (fun w => IntsAt w (.slice (some ⟨g, 0, none⟩) n cap) ks) :=
  fun _ hw => h.some (fun _ u => hw _ _ u hB)
theorem lt_alloc3 (w : World) (o1 o2 o3 : Obj) : ((((w.alloc o1).alloc o2).alloc o3)).heap.size = w.heap.size + 1 + 1 + 1 := by simp

set_option maxHeartbeats 1000000 in
theorem toNode_fr (td : Td) (lv kv : Value) (w : World) (hl : LevsAt w lv td.lv) (hk : IntsAt w kv td.kids) (hll : td.lv.length ≤ 1048576) (hlk : ∀ l ∈ td.lv, l.length ≤ 1048576 ∧ ∀ nd ∈ l, nd.kids.length ≤ 1048576) (hkl : td.kids.length ≤ 1048576) :
    Calls Tryz.prog 48 #[.agg #[.int .i64 td.k, .int .i64 td.n, .int .i64 td.m, .string td.s, lv, kv]] w fun e w' => ∃ gl gk, e = .returned (.agg #[.int .i64 td.k, .int .i64 td.n, .int .i64 td.m, .string td.s, .slice (some ⟨gl, 0, none⟩) td.lv.length td.lv.length, .slice (some ⟨gk, 0, none⟩) td.kids.length td.kids.length]) ∧
      Fr w.heap.size w' (fun w => LevsAt w (.slice (some ⟨gl, 0, none⟩) td.lv.length td.lv.length) td.lv) ∧ Fr w.heap.size w' (fun w => IntsAt w (.slice (some ⟨gk, 0, none⟩) td.kids.length td.kids.length) td.kids) ∧ Below w.heap.size w w' := by
  have b3 : ∀ o1 o2 o3, Below w.heap.size w (((w.alloc o1).alloc o2).alloc o3) := fun o1 o2 o3 => ((((Below.refl w.heap.size w).alloc (Nat.le_refl _) o1).alloc (by simp) o2).alloc (by simp; omega) o3)
  have HB3 := hide b3
  have HL : Hid (∀ o1 o2 o3, LevsAt (((w.alloc o1).alloc o2).alloc o3) lv td.lv) := fun o1 o2 o3 => hl.keep (b3 o1 o2 o3)
  have HK := hide hk
  have HLK := hide hlk
  obtain ⟨la, lc, rfl, _, _, _⟩ := hl
  obtain ⟨ka, kc, rfl, _, _, _⟩ := hk
  clear b3 hlk
  go_enter Tryz.func48, Tryz.ntmps48
  go_wp2_with fail
  refine (toLevelS_fr _ td.lv _ (HL.out _ _ _) hll HLK.out).mono ?_
  rintro e w1 ⟨gl, rfl, hfr, hg, hb⟩
  obtain ⟨hc, hf⟩ := bcell hb
  have hz : w.heap.size + 1 + 1 < w1.heap.size := by have := hb.size; simp at this; omega
  have hbel : Below w.heap.size w w1 := (HB3.out _ _ _).trans (hb.mono (by simp; omega))
  simp only [World.size_alloc] at hc hf hg hfr
  have x0 : w1.cell? ⟨w.heap.size + 1 + 1, 0, none⟩ = some (.int .i64 td.k) := by rw [hc _ _ (by omega)]; simp [go_sem]
  have x1 : w1.cell? ⟨w.heap.size + 1 + 1, 1, none⟩ = some (.int .i64 td.n) := by rw [hc _ _ (by omega)]; simp [go_sem]
  have x2 : w1.cell? ⟨w.heap.size + 1 + 1, 2, none⟩ = some (.int .i64 td.m) := by rw [hc _ _ (by omega)]; simp [go_sem]
  have x3 : w1.cell? ⟨w.heap.size + 1 + 1, 3, none⟩ = some (.string td.s) := by rw [hc _ _ (by omega)]; simp [go_sem]
  have x4 : w1.cell? ⟨w.heap.size + 1 + 1, 4, none⟩ = some (.slice none 0 0) := by rw [hc _ _ (by omega)]; simp [go_sem]
  have x5 : w1.cell? ⟨w.heap.size + 1 + 1, 5, none⟩ = some (.slice none 0 0) := by rw [hc _ _ (by omega)]; simp [go_sem]
  have y5 : w1.cell? ⟨w.heap.size, 5, none⟩ = some (.slice ka td.kids.length kc) := by rw [hc _ _ (by omega)]; simp [go_sem]
  have f0 : ∀ o, w1.frozen? ⟨w.heap.size + 1 + 1, o, none⟩ = false := fun o => by rw [hf _ _ (by omega)]; simp [go_sem]
  have r0 : ∀ o, o < 6 → ∃ v, w1.cell? ⟨w.heap.size + 1, o, none⟩ = some v := fun o ho => by
    rw [hc _ _ (by omega)]
    rcases (show o = 0 ∨ o = 1 ∨ o = 2 ∨ o = 3 ∨ o = 4 ∨ o = 5 from by omega) with rfl | rfl | rfl | rfl | rfl | rfl <;> exact ⟨_, by simp [go_sem]; rfl⟩
  have f1 : ∀ o, w1.frozen? ⟨w.heap.size + 1, o, none⟩ = false := fun o => by rw [hf _ _ (by omega)]; simp [go_sem]
  have HFR := hide hfr
  have HBL := hide hbel
  clear hb hfr hbel hc hf
  go_wp2_with fail
  obtain ⟨W1, hW1⟩ : ∃ W1, W1 = w1.setCell ⟨w.heap.size + 1 + 1, 4, none⟩ (.slice (some ⟨gl, 0, none⟩) td.lv.length td.lv.length) := ⟨_, rfl⟩
  rw [← hW1]
  have z0 : W1.cell? ⟨w.heap.size + 1 + 1, 0, none⟩ = some (.int .i64 td.k) := by rw [hW1]; simp [go_sem, x0]
  have z1 : W1.cell? ⟨w.heap.size + 1 + 1, 1, none⟩ = some (.int .i64 td.n) := by rw [hW1]; simp [go_sem, x1]
  have z2 : W1.cell? ⟨w.heap.size + 1 + 1, 2, none⟩ = some (.int .i64 td.m) := by rw [hW1]; simp [go_sem, x2]
  have z3 : W1.cell? ⟨w.heap.size + 1 + 1, 3, none⟩ = some (.string td.s) := by rw [hW1]; simp [go_sem, x3]
  have z4 : W1.cell? ⟨w.heap.size + 1 + 1, 4, none⟩ = some (.slice (some ⟨gl, 0, none⟩) td.lv.length td.lv.length) := by rw [hW1]; simp [go_sem, x4]
  have z5 : W1.cell? ⟨w.heap.size + 1 + 1, 5, none⟩ = some (.slice none 0 0) := by rw [hW1]; simp [go_sem, x5]
  have q0 : ∀ o, W1.frozen? ⟨w.heap.size + 1 + 1, o, none⟩ = false := fun o => by rw [hW1]; simp [go_sem, f0]
  have q1 : ∀ o, W1.frozen? ⟨w.heap.size + 1, o, none⟩ = false := fun o => by rw [hW1]; simp [go_sem, f1]
  have s0 : ∀ o, o < 6 → ∃ v, W1.cell? ⟨w.heap.size + 1, o, none⟩ = some v := fun o ho => by rw [hW1, cell_set (by simp)]; exact r0 o ho
  have hzW : w.heap.size + 1 + 1 < W1.heap.size := by rw [hW1, size_set]; exact hz
  have HBW := hide (show Below w.heap.size w W1 by rw [hW1]; exact HBL.out.setCell (p := ⟨_, _, _⟩) (by show _ ≤ w.heap.size + 1 + 1; omega) _)
  have HFW := hide (show Fr (w.heap.size + 1 + 1 + 1) W1 (fun w => LevsAt w (.slice (some ⟨gl, 0, none⟩) td.lv.length td.lv.length) td.lv) by rw [hW1]; exact HFR.out.set (p := ⟨_, _, _⟩) (by simp) _)
  clear hW1 x0 x1 x2 x3 x4 x5 y5 f0 f1 r0 hz HFR HBL
  refine (toIntS_any _ td.kids _ (HK.out.keep HBW.out) hkl).mono ?_
  rintro e w2 ⟨gk, rfl, hints, hgk, hb2⟩
  obtain ⟨hc, hf⟩ := bcell hb2
  have x0 := keep_cell hb2 z0
  have x1 := keep_cell hb2 z1
  have x2 := keep_cell hb2 z2
  have x3 := keep_cell hb2 z3
  have x4 := keep_cell hb2 z4
  have x5 := keep_cell hb2 z5
  have f0 : ∀ o, w2.frozen? ⟨w.heap.size + 1 + 1, o, none⟩ = false := fun o => by rw [hf _ _ (by omega)]; exact q0 o
  have f1 : ∀ o, w2.frozen? ⟨w.heap.size + 1, o, none⟩ = false := fun o => by rw [hf _ _ (by omega)]; exact q1 o
  obtain ⟨v0, r0⟩ := s0 0 (by omega)
  obtain ⟨v1, r1⟩ := s0 1 (by omega)
  obtain ⟨v2, r2⟩ := s0 2 (by omega)
  obtain ⟨v3, r3⟩ := s0 3 (by omega)
  obtain ⟨v4, r4⟩ := s0 4 (by omega)
  obtain ⟨v5, r5⟩ := s0 5 (by omega)
  have r0 := keep_cell hb2 r0
  have r1 := keep_cell hb2 r1
  have r2 := keep_cell hb2 r2
  have r3 := keep_cell hb2 r3
  have r4 := keep_cell hb2 r4
  have r5 := keep_cell hb2 r5
  have HF2 := hide (HFW.out.keep hb2)
  have HI2 := hide (ints_fr (B := w.heap.size + 1 + 1 + 1) hints (by omega))
  have HB2 := hide (HBW.out.trans (hb2.mono HBW.out.size))
  clear hb2 hc hf hints HFW HBW z0 z1 z2 z3 z4 z5 q0 q1 s0
  go_wp2_with fail
  refine bodyPost_ret (v := .agg #[.int .i64 td.k, .int .i64 td.n, .int .i64 td.m, .string td.s, .slice (some ⟨gl, 0, none⟩) td.lv.length td.lv.length, .slice (some ⟨gk, 0, none⟩) td.kids.length td.kids.length]) (by simp [results, go_sem, r0, r1, r2, r3, r4, r5]) rfl ⟨gl, gk, rfl, ?_, ?_, ?_⟩
  · exact Fr.mono (B := w.heap.size + 1 + 1 + 1) (Fr.set (Fr.set (Fr.set (Fr.set (Fr.set (Fr.set (Fr.set HF2.out (p := ⟨_, _, _⟩) (by dsimp only; omega) _) (p := ⟨_, _, _⟩) (by dsimp only; omega) _) (p := ⟨_, _, _⟩) (by dsimp only; omega) _) (p := ⟨_, _, _⟩) (by dsimp only; omega) _) (p := ⟨_, _, _⟩) (by dsimp only; omega) _) (p := ⟨_, _, _⟩) (by dsimp only; omega) _) (p := ⟨_, _, _⟩) (by dsimp only; omega) _) (by omega)
  · exact Fr.mono (B := w.heap.size + 1 + 1 + 1) (Fr.set (Fr.set (Fr.set (Fr.set (Fr.set (Fr.set (Fr.set HI2.out (p := ⟨_, _, _⟩) (by dsimp only; omega) _) (p := ⟨_, _, _⟩) (by dsimp only; omega) _) (p := ⟨_, _, _⟩) (by dsimp only; omega) _) (p := ⟨_, _, _⟩) (by dsimp only; omega) _) (p := ⟨_, _, _⟩) (by dsimp only; omega) _) (p := ⟨_, _, _⟩) (by dsimp only; omega) _) (p := ⟨_, _, _⟩) (by dsimp only; omega) _) (by omega)
  · exact (Below.setCell (Below.setCell (Below.setCell (Below.setCell (Below.setCell (Below.setCell (Below.setCell HB2.out (p := ⟨_, _, _⟩) (by dsimp only; omega) _) (p := ⟨_, _, _⟩) (by dsimp only; omega) _) (p := ⟨_, _, _⟩) (by dsimp only; omega) _) (p := ⟨_, _, _⟩) (by dsimp only; omega) _) (p := ⟨_, _, _⟩) (by dsimp only; omega) _) (p := ⟨_, _, _⟩) (by dsimp only; omega) _) (p := ⟨_, _, _⟩) (by dsimp only; omega) _)
end Go.Proofs.YtgomimhelgjddaaGreat

/- What the copying of a term (toTerm, toNodeS) answers: a new term with the same nodes; nothing that was there is written. -/
namespace Go.Proofs.YtgomimhelgjddaaGreat
open Go.ChangeShapes Go.WideShapes Go.ChangeAt Go.RowKit

theorem Tryz.info51 : (Tryz.prog.info? 51).map (fun i => (i.zero, i.size, i.bytes)) = some (some (.agg #[.int .i64 0, .int .i64 0, .int .i64 0, .string ⟨#[]⟩, .slice none 0 0, .slice none 0 0]), 6, 88) := by kernel_rfl
/-- What is asked of a node that is copied. -/
def TSmall (td : Td) : Prop := td.lv.length ≤ 1048576 ∧ (∀ l ∈ td.lv, l.length ≤ 1048576 ∧ ∀ nd ∈ l, nd.kids.length ≤ 1048576) ∧ td.kids.length ≤ 1048576
/-- The first k nodes stand in the row R, what they lead to in blocks behind it. -/
def TNodesIn (w : World) (R : Nat) (xs : List Value) (ts : List Td) (k : Nat) : Prop :=
  ∀ i (h : i < ts.length), i < k → xs[i * 6]? = some (.int .i64 ts[i].k) ∧ xs[i * 6 + 1]? = some (.int .i64 ts[i].n) ∧ xs[i * 6 + 2]? = some (.int .i64 ts[i].m) ∧ xs[i * 6 + 3]? = some (.string ts[i].s) ∧
    ∃ lv, xs[i * 6 + 4]? = some lv ∧ Fr (R + 1) w (fun w => LevsAt w lv ts[i].lv) ∧ ∃ kv, xs[i * 6 + 5]? = some kv ∧ Fr (R + 1) w (fun w => IntsAt w kv ts[i].kids)
theorem TNodesIn.keep {w w' : World} (hb : Below w.heap.size w w') {R : Nat} {xs : List Value} {ts : List Td} {k : Nat} (h : TNodesIn w R xs ts k) : TNodesIn w' R xs ts k := fun i hi hk => by
  obtain ⟨h1, h2, h3, h4, lv, h5, h6, kv, h7, h8⟩ := h i hi hk
  exact ⟨h1, h2, h3, h4, lv, h5, h6.keep hb, kv, h7, h8.keep hb⟩
theorem TNodesIn.put {w w' : World} {R : Nat} {xs : List Value} {ts : List Td} {k : Nat} {lv kv : Value} (hx : xs.length = ts.length * 6) (h : TNodesIn w R xs ts k) (hk : k < ts.length) (hl : Fr (R + 1) w (fun w => LevsAt w lv ts[k].lv)) (hkv : Fr (R + 1) w (fun w => IntsAt w kv ts[k].kids)) (hw : ∀ P, Fr (R + 1) w P → Fr (R + 1) w' P) :
    TNodesIn w' R ((((((xs.set (k * 6) (.int .i64 ts[k].k)).set (k * 6 + 1) (.int .i64 ts[k].n)).set (k * 6 + 2) (.int .i64 ts[k].m)).set (k * 6 + 3) (.string ts[k].s)).set (k * 6 + 4) lv).set (k * 6 + 5) kv) ts (k + 1) := by
  intro i hi hik
  by_cases e : i = k
  · subst e
    refine ⟨?_, ?_, ?_, ?_, lv, ?_, hw _ hl, kv, ?_, hw _ hkv⟩
    · rw [List.getElem?_set_ne (by omega), List.getElem?_set_ne (by omega), List.getElem?_set_ne (by omega), List.getElem?_set_ne (by omega), List.getElem?_set_ne (by omega), List.getElem?_set_self (by omega)]
    · rw [List.getElem?_set_ne (by omega), List.getElem?_set_ne (by omega), List.getElem?_set_ne (by omega), List.getElem?_set_ne (by omega), List.getElem?_set_self (by simp; omega)]
    · rw [List.getElem?_set_ne (by omega), List.getElem?_set_ne (by omega), List.getElem?_set_ne (by omega), List.getElem?_set_self (by simp; omega)]
    · rw [List.getElem?_set_ne (by omega), List.getElem?_set_ne (by omega), List.getElem?_set_self (by simp; omega)]
    · rw [List.getElem?_set_ne (by omega), List.getElem?_set_self (by simp; omega)]
    · rw [List.getElem?_set_self (by simp; omega)]
  · obtain ⟨h1, h2, h3, h4, lv', h5, h6, kv', h7, h8⟩ := h i hi (by omega)
    have hs : ∀ o, o < 6 → ((((((xs.set (k * 6) (.int .i64 ts[k].k)).set (k * 6 + 1) (.int .i64 ts[k].n)).set (k * 6 + 2) (.int .i64 ts[k].m)).set (k * 6 + 3) (.string ts[k].s)).set (k * 6 + 4) lv).set (k * 6 + 5) kv)[i * 6 + o]? = xs[i * 6 + o]? := fun o ho => by
      rw [List.getElem?_set_ne (by omega), List.getElem?_set_ne (by omega), List.getElem?_set_ne (by omega), List.getElem?_set_ne (by omega), List.getElem?_set_ne (by omega), List.getElem?_set_ne (by omega)]
    refine ⟨?_, ?_, ?_, ?_, lv', ?_, hw _ h6, kv', ?_, hw _ h8⟩
    · exact (hs 0 (by omega)).trans h1
    · rw [hs 1 (by omega)]; exact h2
    · rw [hs 2 (by omega)]; exact h3
    · rw [hs 3 (by omega)]; exact h4
    · rw [hs 4 (by omega)]; exact h5
    · rw [hs 5 (by omega)]; exact h7
theorem TNodesIn.fr {w : World} {base R n cap : Nat} {e : TypeId} {xs : List Value} {ts : List Td} (h : w.ownsRow base e 6 (.slice (some ⟨R, 0, none⟩) n cap) n xs) (hn : n = ts.length) (hx : TNodesIn w R xs ts ts.length) :
    Fr R w (fun w => TNodesAt w (.slice (some ⟨R, 0, none⟩) n cap) ts) := by
  subst hn
  intro w' hw
  rcases h.2 with ⟨h', _⟩ | ⟨g', cap', cur, h', _, hg, hnc, hcm, hcs, htake⟩
  · simp at h'
  · simp only [Value.slice.injEq, Option.some.injEq, Addr.mk.injEq, and_true, true_and] at h'
    obtain ⟨rfl, rfl⟩ := h'
    refine ⟨_, _, rfl, hnc, hcm, fun _ => ⟨R, 0, rfl, fun i hi => ?_⟩⟩
    obtain ⟨h1, h2, h3, h4, lv, h5, h6, kv, h7, h8⟩ := hx i hi hi
    rw [Nat.zero_add]
    have cc : ∀ o v, o < 6 → xs[i * 6 + o]? = some v → w'.cell? ⟨R, i * 6 + o, none⟩ = some v := fun o v ho hv => hw _ _ _ (Nat.le_refl _) (by rw [h.cellAt _ (by omega)]; exact hv)
    exact ⟨cc 0 _ (by omega) h1, cc 1 _ (by omega) h2, cc 2 _ (by omega) h3, cc 3 _ (by omega) h4, lv, cc 4 _ (by omega) h5, h6 w' (fun b o v hb => hw b o v (by omega)), kv, cc 5 _ (by omega) h7, h8 w' (fun b o v hb => hw b o v (by omega))⟩

set_option maxHeartbeats 2000000 in
theorem toNodeS_fr (v : Value) (ts : List Td) (w : World) (hn : TNodesAt w v ts) (hl : ts.length ≤ 1048576) (hkl : ∀ td ∈ ts, TSmall td) :
    Calls Tryz.prog 26 #[v] w fun e w' => ∃ g, e = .returned (.slice (some ⟨g, 0, none⟩) ts.length ts.length) ∧ Fr w.heap.size w' (fun w => TNodesAt w (.slice (some ⟨g, 0, none⟩) ts.length ts.length) ts) ∧ w.heap.size ≤ g ∧ Below w.heap.size w w' := by
  obtain ⟨i0, hi, hz0, hz1, hz2⟩ := info_parts Tryz.info51
  obtain ⟨a, cap, rfl, hlc, hcm, hc⟩ := hn
  have HC : Hid (0 < ts.length → ∃ b off, a = some ⟨b, off, none⟩ ∧ ∀ i (h : i < ts.length), TNodeAt w b (off + i * 6) ts[i]) := hc
  have HK := hide hkl
  clear hc hkl
  go_enter Tryz.func26, Tryz.ntmps26
  go_wp2_with (at_make; refine wpList_make_full _ rfl _ _ 28 rfl w.heap.size 51 i0 (.agg #[.int .i64 0, .int .i64 0, .int .i64 0, .string ⟨#[]⟩, .slice none 0 0, .slice none 0 0]) 6 Tryz.underlying28 hi hz0 hz1 .i64 .i64 _ _ ts.length rfl rfl rfl rfl (by rw [hz2]; omega) (by unfold maxLen; omega) (Nat.le_refl _) ?_; intro w1 hown hgrow)
  go_loopw [4] (fun i wr => ∃ (k : Nat) (xs : List Value), k ≤ ts.length ∧ i = .int .i64 k ∧ wr.ownsRow w.heap.size 51 6 (.slice (some ⟨w.heap.size, 0, none⟩) ts.length ts.length) ts.length xs ∧ Hid (TNodesIn wr w.heap.size xs ts k) ∧ w.heap.size < wr.heap.size ∧ Below w.heap.size w wr) (fun i _ => ts.length - (intOf i).toNat)
  case atStart => exact ⟨0, _, by omega, rfl, hown, fun j _ h => by omega, (hown.lt _ rfl).2, (Below.refl _ _).grown hgrow (Nat.le_refl _) (fun k hk => by cases hk)⟩
  case round =>
    obtain ⟨k, xs, hk, rfl, hownr, HX, hsz, hbel⟩ := hrel
    clear hown hgrow
    by_cases hlt : k < ts.length
    · obtain ⟨b, off, ha, hc⟩ := HC.out (by omega)
      subst ha
      obtain ⟨c1, c2, c3, c4, lv, c5, hlv, kv, c6, hkv⟩ := (hc k hlt).keep hbel
      have HSM := hide (HK.out ts[k] (by simp))
      have HLV := hide hlv
      have HKV := hide hkv
      obtain ⟨la, lc, rfl, _, _, _⟩ := hlv
      obtain ⟨ka, kc, rfl, _, _, _⟩ := hkv
      clear hc
      go_wp2_with fail
      refine (toNode_fr ts[k] _ _ _ HLV.out HKV.out HSM.out.1 HSM.out.2.1 HSM.out.2.2).mono ?_
      rintro e w2 ⟨gl, gk, rfl, hfl, hfk, hb⟩
      have hown2 := row_keep hb hownr
      have HX2 := hide (HX.out.keep hb)
      have hbel2 : Below w.heap.size w w2 := hbel.trans (hb.mono hbel.size)
      have hxl := hown2.1
      have s0 := (hown2.stored (k * 6) (.int .i64 ts[k].k)).1
      have s1 := (s0.stored (k * 6 + 1) (.int .i64 ts[k].n)).1
      have s2 := (s1.stored (k * 6 + 2) (.int .i64 ts[k].m)).1
      have s3 := (s2.stored (k * 6 + 3) (.string ts[k].s)).1
      have s4 := (s3.stored (k * 6 + 4) (.slice (some ⟨gl, 0, none⟩) ts[k].lv.length ts[k].lv.length)).1
      have s5 := (s4.stored (k * 6 + 5) (.slice (some ⟨gk, 0, none⟩) ts[k].kids.length ts[k].kids.length)).1
      have f0 := hown2.frozenAt (k * 6)
      have f1 := hown2.frozenAt (k * 6 + 1)
      have f2 := hown2.frozenAt (k * 6 + 2)
      have f3 := hown2.frozenAt (k * 6 + 3)
      have f4 := hown2.frozenAt (k * 6 + 4)
      have f5 := hown2.frozenAt (k * 6 + 5)
      have e0 := hown2.cellAt (k * 6) (by omega)
      have e1 := hown2.cellAt (k * 6 + 1) (by omega)
      have e2 := hown2.cellAt (k * 6 + 2) (by omega)
      have e3 := hown2.cellAt (k * 6 + 3) (by omega)
      have e4 := hown2.cellAt (k * 6 + 4) (by omega)
      have e5 := hown2.cellAt (k * 6 + 5) (by omega)
      rw [List.getElem?_eq_getElem (by omega)] at e0 e1 e2 e3 e4 e5
      have hsz2 : w.heap.size < w2.heap.size := by have := hb.size; omega
      have HP := hide (HX2.out.put (w' := (((((w2.setCell ⟨w.heap.size, k * 6, none⟩ (.int .i64 ts[k].k)).setCell ⟨w.heap.size, k * 6 + 1, none⟩ (.int .i64 ts[k].n)).setCell ⟨w.heap.size, k * 6 + 2, none⟩ (.int .i64 ts[k].m)).setCell ⟨w.heap.size, k * 6 + 3, none⟩ (.string ts[k].s)).setCell ⟨w.heap.size, k * 6 + 4, none⟩ (.slice (some ⟨gl, 0, none⟩) ts[k].lv.length ts[k].lv.length)).setCell ⟨w.heap.size, k * 6 + 5, none⟩ (.slice (some ⟨gk, 0, none⟩) ts[k].kids.length ts[k].kids.length)) (by omega) hlt (hfl.mono (by omega)) (hfk.mono (by omega)) (fun P hP => Fr.set (Fr.set (Fr.set (Fr.set (Fr.set (Fr.set hP (p := ⟨_, _, _⟩) (by dsimp only; omega) _) (p := ⟨_, _, _⟩) (by dsimp only; omega) _) (p := ⟨_, _, _⟩) (by dsimp only; omega) _) (p := ⟨_, _, _⟩) (by dsimp only; omega) _) (p := ⟨_, _, _⟩) (by dsimp only; omega) _) (p := ⟨_, _, _⟩) (by dsimp only; omega) _))
      have HB2 := hide hbel2
      clear HX2 HX hfl hfk hown2 hownr s0 s1 s2 s3 s4 hb c1 c2 c3 c4 c5 c6 hbel2
      go_wp2_with fail
      go_roundw
      case rel => exact ⟨k + 1, _, by omega, by go_num, s5, HP, by simpa [World.setCell] using hsz2, (((((HB2.out.setCell (p := ⟨_, _, _⟩) (Nat.le_refl _) _).setCell (p := ⟨_, _, _⟩) (Nat.le_refl _) _).setCell (p := ⟨_, _, _⟩) (Nat.le_refl _) _).setCell (p := ⟨_, _, _⟩) (Nat.le_refl _) _).setCell (p := ⟨_, _, _⟩) (Nat.le_refl _) _).setCell (p := ⟨_, _, _⟩) (Nat.le_refl _) _⟩
      case measure => simp [intOf]; omega
    · have hall := TNodesIn.fr hownr rfl (by have := HX.out; rwa [show k = ts.length from by omega] at this)
      go_wp2_with fail
      go_ret
      exact ⟨_, rfl, hall, Nat.le_refl _, hbel⟩

set_option maxHeartbeats 1000000 in
theorem toTerm_fr (v : Value) (ts : List Td) (w : World) (hn : TNodesAt w v ts) (hl : ts.length ≤ 1048576) (hkl : ∀ td ∈ ts, TSmall td) :
    Calls Tryz.prog 8 #[.agg #[v]] w fun e w' => ∃ g, e = .returned (.agg #[.slice (some ⟨g, 0, none⟩) ts.length ts.length]) ∧ Fr w.heap.size w' (fun w => TNodesAt w (.slice (some ⟨g, 0, none⟩) ts.length ts.length) ts) ∧ w.heap.size ≤ g ∧ Below w.heap.size w w' := by
  have HN : Hid (∀ o1 o2 o3, TNodesAt (((w.alloc o1).alloc o2).alloc o3) v ts) := fun o1 o2 o3 => hn.keep ((((Below.refl w.heap.size w).alloc (Nat.le_refl _) o1).alloc (by simp) o2).alloc (by simp; omega) o3)
  have HK := hide hkl
  obtain ⟨a, cap, rfl, hlc, hcm, _⟩ := hn
  clear hkl
  go_enter Tryz.func8, Tryz.ntmps8
  go_wp2_with fail
  refine (toNodeS_fr _ ts _ (HN.out _ _ _) hl HK.out).mono ?_
  rintro e w1 ⟨g, rfl, hnodes, hg, hb⟩
  obtain ⟨hc, hf⟩ := bcell hb
  have hz : w.heap.size + 1 + 1 < w1.heap.size := by have := hb.size; simp at this; omega
  have hbel : Below w.heap.size w w1 := ((((Below.refl w.heap.size w).alloc (Nat.le_refl _) _).alloc (by simp) _).alloc (by simp; omega) _).trans (hb.mono (by simp; omega))
  simp only [World.size_alloc] at hc hf hg hnodes
  clear hb
  go_wp2_with fail
  refine bodyPost_ret (v := .agg #[.slice (some ⟨g, 0, none⟩) ts.length ts.length]) (by simp [results, go_sem, hc]) rfl ⟨g, rfl, ?_, by omega, ?_⟩
  · exact ((hnodes.set (p := ⟨_, _, _⟩) (by dsimp only; omega) _).set (p := ⟨_, _, _⟩) (by dsimp only; omega) _).mono (by omega)
  · exact (hbel.setCell (p := ⟨_, _, _⟩) (by show _ ≤ w.heap.size + 1 + 1; omega) _).setCell (p := ⟨_, _, _⟩) (by show _ ≤ w.heap.size + 1; omega) _
end Go.Proofs.YtgomimhelgjddaaGreat
