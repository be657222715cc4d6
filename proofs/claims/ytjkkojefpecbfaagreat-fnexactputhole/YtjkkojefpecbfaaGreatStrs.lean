/- What the counting of a level (szLevel and what it calls) answers. -/
import Derived.Test.YtjkkojefpecbfaaGreatPlain
namespace Go.Proofs.YtjkkojefpecbfaaGreat
open Go.ChangeShapes Go.WideShapes Go.ChangeAt Go.RowKit

/-- What is left when n is taken away: -1 where it is less than nothing. -/
def leftOf (left : Int) (n : Nat) : Int := if left < n then -1 else left - n
theorem ret_int {k : IntKind} {a b : Int} (h : a = b) : Ending.returned (.int k a) = .returned (.int k b) := by rw [h]

set_option maxHeartbeats 400000 in
theorem szIntS_any (v : Value) (ks : List Int) (left : Int) (w : World) (hk : IntsAt w v ks) (h0 : 0 ≤ left) (h1 : left ≤ 1048576) :
    Calls Tryz.prog 137 #[v, .int .i64 left] w fun e w' => e = .returned (.int .i64 (leftOf left ks.length)) ∧ w' = w := by
  obtain ⟨a, cap, rfl, hlc, hcm, _⟩ := hk
  unfold maxLen at hcm
  by_cases h : left < ks.length
  · go_enter Tryz.func137, Tryz.ntmps137
    go_wp2
    go_ret
    exact ⟨ret_int (by rw [leftOf, if_pos h]), rfl⟩
  · go_enter Tryz.func137, Tryz.ntmps137
    go_wp2
    go_ret
    exact ⟨ret_int (by rw [leftOf, if_neg (by omega)]), rfl⟩

set_option maxHeartbeats 400000 in
theorem szLNode_any (nd : Nd) (kv : Value) (left : Int) (w : World) (hs : nd.s.size ≤ maxLen) (hk : IntsAt w kv nd.kids) (h0 : 0 ≤ left) (h1 : left ≤ 1048576) :
    Calls Tryz.prog 157 #[.agg #[.int .i64 nd.k, .string nd.s, kv], .int .i64 left] w fun e w' => e = .returned (.int .i64 (leftOf left (ndSize nd))) ∧ Below w.heap.size w w' := by
  unfold maxLen at hs
  by_cases h : left < nd.s.size
  · go_enter Tryz.func157, Tryz.ntmps157
    go_wp2_with fail
    go_ret
    exact ⟨ret_int (by rw [leftOf, if_pos (by unfold ndSize; omega)]), (Below.refl _ _).alloc (Nat.le_refl _) _⟩
  · have hbox := fun o => hk.keep ((Below.refl w.heap.size w).alloc (Nat.le_refl _) o)
    have HK : Hid (∀ o, IntsAt (w.alloc o) kv nd.kids) := hbox
    clear hbox
    obtain ⟨a, cap, rfl, hlc, hcm, _⟩ := hk
    by_cases h2 : left - nd.s.size < nd.kids.length
    · have HL : Hid (leftOf (left - nd.s.size) nd.kids.length = -1) := by show leftOf _ _ = _; rw [leftOf, if_pos h2]
      go_enter Tryz.func157, Tryz.ntmps157
      go_wp2_with (go_at_call 137; refine (szIntS_any _ nd.kids _ _ (HK.out _) (by omega) (by omega)).mono ?_; rintro e w' ⟨rfl, rfl⟩; rw [HL.out])
      go_ret
      exact ⟨ret_int (by rw [leftOf, if_pos (by unfold ndSize; omega)]), (Below.refl _ _).alloc (Nat.le_refl _) _⟩
    · have HL : Hid (leftOf (left - nd.s.size) nd.kids.length = left - nd.s.size - nd.kids.length) := by show leftOf _ _ = _; rw [leftOf, if_neg h2]
      have hpos : (nd.kids.length : Int) ≤ left - nd.s.size := by omega
      clear h2
      go_enter Tryz.func157, Tryz.ntmps157
      go_wp2_with (go_at_call 137; refine (szIntS_any _ nd.kids _ _ (HK.out _) (by omega) (by omega)).mono ?_; rintro e w' ⟨rfl, rfl⟩; rw [HL.out])
      go_ret
      exact ⟨ret_int (by rw [leftOf, if_neg (by unfold ndSize; omega)]; unfold ndSize; omega), (Below.refl _ _).alloc (Nat.le_refl _) _⟩

set_option maxHeartbeats 1000000 in
theorem szLNodeS_any (v : Value) (ns : List Nd) (left : Int) (w : World) (hns : NodesAt w v ns) (hsz : ∀ nd ∈ ns, nd.s.size ≤ maxLen) (h0 : 0 ≤ left) (h1 : left ≤ 1048576) :
    Calls Tryz.prog 116 #[v, .int .i64 left] w fun e w' => e = .returned (.int .i64 (leftOf left (ns.length + nsSum ns))) ∧ Below w.heap.size w w' := by
  obtain ⟨a, cap, rfl, hlc, hcm, hnode⟩ := hns
  unfold maxLen at hcm
  by_cases h : left < ns.length
  · go_enter Tryz.func116, Tryz.ntmps116
    go_wp2_with fail
    go_ret
    exact ⟨ret_int (by rw [leftOf, if_pos (by omega)]), Below.refl _ _⟩
  have HN : Hid (0 < ns.length → ∃ b off, a = some ⟨b, off, none⟩ ∧ ∀ i (h : i < ns.length), NodeAt w b (off + i * 3) ns[i]) := hnode
  have HZ : Hid (∀ nd ∈ ns, nd.s.size ≤ maxLen) := hsz
  have d0 : decide (left - (ns.length : Int) < 0) = false := by simp; omega
  clear hnode hsz
  go_enter Tryz.func116, Tryz.ntmps116
  go_wp2_with fail
  go_loopw [1, 5] (fun l i wr => ∃ k : Nat, k ≤ ns.length ∧ i = .int .i64 k ∧ (nsSum (ns.take k) : Int) ≤ left - ns.length ∧ l = .int .i64 (left - ns.length - nsSum (ns.take k)) ∧ Below w.heap.size w wr) (fun _ i _ => ns.length - (intOf i).toNat)
  case atStart => exact ⟨0, by omega, rfl, by simp [nsSum]; omega, by simp [nsSum], Below.refl _ _⟩
  case round =>
    obtain ⟨k, hk, rfl, hsum, rfl, hbel⟩ := hrel
    by_cases hlt : k < ns.length
    · obtain ⟨b, off, ha, hc⟩ := HN.out (by omega)
      subst ha
      have hnd := hc k hlt
      have hsnoc := nsSum_snoc ns k hlt
      have hsl := HZ.out ns[k] (by simp)
      have hle := nsSum_le ns (k + 1)
      generalize ns[k] = nd at *
      obtain ⟨c1, c2, kv, c3, hkv⟩ := hnd
      have c1' := hbel.cell (p := ⟨b, off + k * 3, none⟩) (lt_cell c1)
      have c2' := hbel.cell (p := ⟨b, off + k * 3 + 1, none⟩) (lt_cell c2)
      have c3' := hbel.cell (p := ⟨b, off + k * 3 + 2, none⟩) (lt_cell c3)
      rw [c1] at c1'
      rw [c2] at c2'
      rw [c3] at c3'
      clear hc c1 c2 c3
      have HS : Hid (nsSum (ns.take (k + 1)) = nsSum (ns.take k) + ndSize nd) := hsnoc
      clear hsnoc
      have hkv' := hkv.keep (w' := wr) hbel
      obtain ⟨L, hL⟩ : ∃ L : Int, L = left - ns.length - nsSum (ns.take k) := ⟨_, rfl⟩
      rw [← hL]
      have hL0 : 0 ≤ L := by omega
      have hL1 : L ≤ 1048576 := by omega
      have HLL : Hid (L = left - ns.length - nsSum (ns.take k)) := hL
      clear hL
      by_cases h3 : L < ndSize nd
      · have HL : Hid (leftOf L (ndSize nd) = -1) := by show leftOf _ _ = _; rw [leftOf, if_pos h3]
        go_wp2_with (go_at_call 157; refine (szLNode_any nd kv _ _ hsl hkv' hL0 hL1).mono ?_; rintro e w' ⟨rfl, hb2⟩; rw [HL.out])
        go_ret
        have := HLL.out; have := HS.out
        exact ⟨ret_int (by rw [leftOf, if_pos (by omega)]), hbel.trans (hb2.mono hbel.size)⟩
      · have HL : Hid (leftOf L (ndSize nd) = L - ndSize nd) := by show leftOf _ _ = _; rw [leftOf, if_neg h3]
        have hge : (ndSize nd : Int) ≤ L := by omega
        go_wp2_with (go_at_call 157; refine (szLNode_any nd kv _ _ hsl hkv' hL0 hL1).mono ?_; rintro e w' ⟨rfl, hb2⟩; rw [HL.out])
        go_roundw
        case rel =>
          have := HLL.out; have := HS.out
          exact ⟨k + 1, by omega, by go_num, by omega, by rw [show L - ndSize nd = left - ns.length - nsSum (ns.take (k + 1)) from by omega], hbel.trans (hb2.mono hbel.size)⟩
        case measure => simp [intOf]; omega
    · have hke : ns.take k = ns := List.take_of_length_le (by omega)
      rw [hke] at hsum ⊢
      clear hke
      go_wp2_with fail
      go_ret
      exact ⟨ret_int (by rw [leftOf, if_neg (by omega)]; omega), hbel⟩

set_option maxHeartbeats 1000000 in
theorem szLevel_any (v : Value) (ns : List Nd) (left : Int) (w : World) (hns : NodesAt w v ns) (hsz : ∀ nd ∈ ns, nd.s.size ≤ maxLen) (h0 : 0 ≤ left) (h1 : left ≤ 1048576) :
    Calls Tryz.prog 68 #[.agg #[v], .int .i64 left] w fun e w' => e = .returned (.int .i64 (leftOf left (ns.length + nsSum ns))) ∧ Below w.heap.size w w' := by
  have HN : Hid (∀ o, NodesAt (w.alloc o) v ns) := fun o => hns.keep ((Below.refl w.heap.size w).alloc (Nat.le_refl _) o)
  have HZ : Hid (∀ nd ∈ ns, nd.s.size ≤ maxLen) := hsz
  obtain ⟨a, cap, rfl, hlc, hcm, _⟩ := hns
  clear hsz
  by_cases h : left < (ns.length + nsSum ns : Nat)
  · have HL : Hid (leftOf left (ns.length + nsSum ns) = -1) := by show leftOf _ _ = _; rw [leftOf, if_pos h]
    clear h
    rw [HL.out]
    go_enter Tryz.func68, Tryz.ntmps68
    go_wp2_with (go_at_call 116; refine (szLNodeS_any _ ns _ _ (HN.out _) HZ.out h0 h1).mono ?_; rintro e w' ⟨rfl, hb2⟩; rw [HL.out])
    go_ret
    exact ⟨rfl, ((Below.refl _ _).alloc (Nat.le_refl _) _).trans (hb2.mono (by simp))⟩
  · have HL : Hid (leftOf left (ns.length + nsSum ns) = left - (ns.length + nsSum ns : Nat)) := by show leftOf _ _ = _; rw [leftOf, if_neg h]
    obtain ⟨M, hM⟩ : ∃ M : Int, M = left - (ns.length + nsSum ns : Nat) := ⟨_, rfl⟩
    have hM0 : 0 ≤ M := by omega
    have HM : Hid (leftOf left (ns.length + nsSum ns) = M) := by show leftOf _ _ = _; rw [HL.out, hM]
    clear h HL hM
    rw [HM.out]
    go_enter Tryz.func68, Tryz.ntmps68
    go_wp2_with (go_at_call 116; refine (szLNodeS_any _ ns _ _ (HN.out _) HZ.out h0 h1).mono ?_; rintro e w' ⟨rfl, hb2⟩; rw [HM.out])
    go_ret
    exact ⟨rfl, ((Below.refl _ _).alloc (Nat.le_refl _) _).trans (hb2.mono (by simp))⟩
end Go.Proofs.YtjkkojefpecbfaaGreat

/- What the copying of a level (toLevel and what it calls) answers: a new level with the same nodes; nothing that was there is written. -/
namespace Go.Proofs.YtjkkojefpecbfaaGreat
open Go.ChangeShapes Go.WideShapes Go.ChangeAt Go.RowKit

theorem Tryz.info3 : (Tryz.prog.info? 3).map (fun i => (i.zero, i.size, i.bytes)) = some (some (.int .i64 0), 1, 8) := by kernel_rfl
theorem Tryz.info174 : (Tryz.prog.info? 174).map (fun i => (i.zero, i.size, i.bytes)) = some (some (.agg #[.int .i64 0, .string ⟨#[]⟩, .slice none 0 0]), 3, 48) := by kernel_rfl

theorem cell_set {w : World} {p : Addr} {u : Value} {b o : Nat} (h : b ≠ p.block) : (w.setCell p u).cell? ⟨b, o, none⟩ = w.cell? ⟨b, o, none⟩ :=
  World.cell?_of_block (a := ⟨b, o, none⟩) (Below.heap_setCell w p u b h)
theorem grown_of {w w' : World} (hb : Below w.heap.size w w') : w.grownBy w' none := ⟨hb.os, hb.tape, hb.output, hb.size, fun k hk _ => hb.block k hk⟩
theorem row_keep {w w' : World} (hb : Below w.heap.size w w') {base : Nat} {e : TypeId} {size : Nat} {v : Value} {n : Nat} {xs : List Value} (h : w.ownsRow base e size v n xs) : w'.ownsRow base e size v n xs :=
  h.kept (grown_of hb) (by cases hv : v.ownBlock <;> simp)
theorem bcell {W w1 : World} (hb : Below W.heap.size W w1) : (∀ b o, b < W.heap.size → w1.cell? ⟨b, o, none⟩ = W.cell? ⟨b, o, none⟩) ∧ (∀ b o, b < W.heap.size → w1.frozen? ⟨b, o, none⟩ = W.frozen? ⟨b, o, none⟩) :=
  ⟨fun b o h => hb.cell (p := ⟨b, o, none⟩) h, fun b o h => hb.frozen (p := ⟨b, o, none⟩) h⟩

end Go.Proofs.YtjkkojefpecbfaaGreat

/- What the small functions around LevelOk answer, on both sides: how many kids a kind has, names of parameters, a node's fields, places in lists, equal rows. -/
namespace Go.Proofs.YtjkkojefpecbfaaGreat
open Go.ChangeShapes Go.WideShapes Go.ChangeAt Go.RowKit

set_option maxHeartbeats 400000 in
theorem levelKids_any (k : Int) (w : World) : Calls Tryz.prog 164 #[.int .i64 k] w fun e w' => e = .returned (.int .i64 (kidsN k)) ∧ w' = w := by
  by_cases h1 : k = 1
  · subst h1; go_enter Tryz.func164, Tryz.ntmps164; go_wp2; go_ret; exact ⟨rfl, rfl⟩
  by_cases h5 : k = 5
  · subst h5; go_enter Tryz.func164, Tryz.ntmps164; go_wp2; go_ret; exact ⟨rfl, rfl⟩
  by_cases h2 : k = 2
  · subst h2; go_enter Tryz.func164, Tryz.ntmps164; go_wp2; go_ret; exact ⟨rfl, rfl⟩
  by_cases h3 : k = 3
  · subst h3; go_enter Tryz.func164, Tryz.ntmps164; go_wp2; go_ret; exact ⟨rfl, rfl⟩
  by_cases h4 : k = 4
  · subst h4; go_enter Tryz.func164, Tryz.ntmps164; go_wp2; go_ret; exact ⟨rfl, rfl⟩
  have HK : Hid (kidsN k = -1) := by show _ = _; unfold kidsN; rw [if_neg (by omega), if_neg (by omega), if_neg (by omega)]
  have e1 : (k == 1) = false := beq_eq_false_iff_ne.2 h1
  have e2 : (k == 2) = false := beq_eq_false_iff_ne.2 h2
  have e3 : (k == 3) = false := beq_eq_false_iff_ne.2 h3
  have e4 : (k == 4) = false := beq_eq_false_iff_ne.2 h4
  have e5 : (k == 5) = false := beq_eq_false_iff_ne.2 h5
  clear h1 h2 h3 h4 h5
  go_enter Tryz.func164, Tryz.ntmps164; go_wp2; go_ret; exact ⟨ret_int HK.out.symm, rfl⟩

set_option maxHeartbeats 400000 in
theorem paramNameOk_any (s : ByteArray) (w : World) (hs : s.size ≤ maxLen) : Calls Tryz.prog 193 #[.string s] w fun e w' => e = .returned (.bool (paramB s)) ∧ w' = w := by
  have HP : Hid (paramB s = (shortB s && !(s.toList == [109, 97, 120]) && !(s.toList == [105, 109, 97, 120]))) := rfl
  cases h : shortB s
  all_goals
    rw [h] at HP
    cases h1 : (s.toList == [109, 97, 120])
    all_goals
      rw [h1] at HP
      go_enter Tryz.func193, Tryz.ntmps193
      go_wp2_with (go_at_call 200; refine (implShort_any _ _ hs).mono ?_; rintro e w' ⟨rfl, rfl⟩)
      go_ret
      exact ⟨ret_bool HP.out.symm, rfl⟩
set_option maxHeartbeats 400000 in
theorem l1ParamOk_any (s : ByteArray) (w : World) (hs : s.size ≤ maxLen) : Calls Tryz.prog 159 #[.string s] w fun e w' => e = .returned (.bool (paramB s)) ∧ w' = w := by
  have HP : Hid (paramB s = (shortB s && !(s.toList == [109, 97, 120]) && !(s.toList == [105, 109, 97, 120]))) := rfl
  cases h : shortB s
  all_goals
    rw [h] at HP
    cases h1 : (s.toList == [109, 97, 120])
    all_goals
      rw [h1] at HP
      go_enter Tryz.func159, Tryz.ntmps159
      go_wp2_with (go_at_call 139; refine (specShort_any _ _ hs).mono ?_; rintro e w' ⟨rfl, rfl⟩)
      go_ret
      exact ⟨ret_bool HP.out.symm, rfl⟩
set_option maxHeartbeats 400000 in
theorem levelFieldsOk_any (nd : Nd) (kv : Value) (w : World) (hs : nd.s.size ≤ maxLen) (hk : IntsAt w kv nd.kids) : Calls Tryz.prog 165 #[.agg #[.int .i64 nd.k, .string nd.s, kv]] w fun e w' => e = .returned (.bool (fieldsB nd)) ∧ Below w.heap.size w w' := by
  obtain ⟨a, cap, rfl, _, _, _⟩ := hk
  by_cases h : nd.k = 5
  · have HF : Hid (fieldsB nd = paramB nd.s) := by show _ = _; rw [fieldsB, if_pos h]
    have hq : (nd.k == 5) = true := beq_iff_eq.2 h
    clear h
    go_enter Tryz.func165, Tryz.ntmps165
    go_wp2_with (go_at_call 193; refine (paramNameOk_any _ _ hs).mono ?_; rintro e w' ⟨rfl, rfl⟩)
    go_ret
    exact ⟨ret_bool HF.out.symm, (Below.refl _ _).alloc (Nat.le_refl _) _⟩
  · have HF : Hid (fieldsB nd = nd.s.toList.isEmpty) := by show _ = _; rw [fieldsB, if_neg h]
    have hq : (nd.k == 5) = false := beq_eq_false_iff_ne.2 h
    clear h
    go_enter Tryz.func165, Tryz.ntmps165
    go_wp2_with fail
    go_ret
    exact ⟨ret_bool HF.out.symm, (Below.refl _ _).alloc (Nat.le_refl _) _⟩

set_option maxHeartbeats 1000000 in
theorem equal_any (v1 v2 : Value) (ks1 ks2 : List Int) (w : World) (h1 : IntsAt w v1 ks1) (h2 : IntsAt w v2 ks2) :
    Calls Tryz.prog 184 #[v1, v2] w fun e w' => e = .returned (.bool (decide (ks1 = ks2))) ∧ ∃ n, w' = w.drewN n := by
  obtain ⟨a1, cap1, rfl, hl1, hm1, hc1⟩ := h1
  obtain ⟨a2, cap2, rfl, hl2, hm2, hc2⟩ := h2
  unfold maxLen at hm1 hm2
  by_cases hlen : ks1.length = ks2.length
  · have H1 : Hid (0 < ks1.length → ∃ b off, a1 = some ⟨b, off, none⟩ ∧ ∀ j (h : j < ks1.length), w.cell? ⟨b, off + j, none⟩ = some (.int .i64 ks1[j])) := hc1
    have H2 : Hid (0 < ks2.length → ∃ b off, a2 = some ⟨b, off, none⟩ ∧ ∀ j (h : j < ks2.length), w.cell? ⟨b, off + j, none⟩ = some (.int .i64 ks2[j])) := hc2
    have hq : ((ks1.length : Int) != (ks2.length : Int)) = false := by simp [hlen]
    have HL : Hid (ks1.length = ks2.length) := hlen
    have hle : ks1.length ≤ ks2.length := by omega
    clear hc1 hc2 hlen
    go_enter Tryz.func184, Tryz.ntmps184
    go_wp2_with fail
    go_loopw [13] (fun i wr => ∃ (k : Nat) (n : Nat), k ≤ ks1.length ∧ i = .int .i64 k ∧ wr = w.drewN n ∧ Hid (∀ j (h : j < ks1.length) (h2 : j < ks2.length), j < k → ks1[j] = ks2[j])) (fun i _ => ks1.length - (intOf i).toNat)
    case atStart => exact ⟨0, 0, by omega, rfl, rfl, fun j _ _ h => by omega⟩
    case round =>
      obtain ⟨k, n, hk, rfl, rfl, HA⟩ := hrel
      by_cases hlt : k < ks1.length
      · obtain ⟨b1, o1, rfl, c1⟩ := H1.out (by omega)
        obtain ⟨b2, o2, rfl, c2⟩ := H2.out (by omega)
        have d1 := c1 k hlt
        have d2 := c2 k (by omega)
        have hlt' : (k : Int) < ks1.length := by omega
        have hlt2 : (k : Int) < ks2.length := by omega
        by_cases he : ks1[k] = ks2[k]'(by omega)
        · have hne : (ks1[k] != ks2[k]'(by omega)) = false := by simp [he]
          have HN : Hid (∀ j (h : j < ks1.length) (h2 : j < ks2.length), j < k + 1 → ks1[j] = ks2[j]) := by
            intro j h h2 hj
            by_cases e : j = k
            · subst e; exact he
            · exact HA.out j h h2 (by omega)
          clear c1 c2 H1 H2 he
          go_wp2_with fail
          go_region
          go_wp2_with fail
          go_roundw
          case rel => exact ⟨k + 1, _, by omega, by go_num, rfl, HN⟩
          case measure => simp [intOf]; omega
        · have hne : (ks1[k] != ks2[k]'(by omega)) = true := by simp [he]
          have HN : Hid (decide (ks1 = ks2) = false) := by
            show _ = false
            rw [decide_eq_false_iff_not]; intro e; apply he; subst e; rfl
          clear c1 c2 H1 H2 he
          go_wp2_with fail
          go_region
          go_wp2_with fail
          go_ret
          exact ⟨ret_bool HN.out.symm, _, rfl⟩
      · have HN : Hid (decide (ks1 = ks2) = true) := by
          show _ = true
          rw [decide_eq_true_eq]
          apply List.ext_getElem HL.out
          intro j h h2
          exact HA.out j h h2 (by omega)
        go_wp2_with fail
        go_ret
        exact ⟨ret_bool HN.out.symm, n, rfl⟩
  · have hq : ((ks1.length : Int) != (ks2.length : Int)) = true := by
      rw [bne_iff_ne]; omega
    have HN : Hid (decide (ks1 = ks2) = false) := by
      show _ = false
      rw [decide_eq_false_iff_not]; intro e; apply hlen; rw [e]
    clear hc1 hc2 hlen
    go_enter Tryz.func184, Tryz.ntmps184
    go_wp2_with fail
    go_ret
    exact ⟨ret_bool HN.out.symm, 0, rfl⟩
end Go.Proofs.YtjkkojefpecbfaaGreat

/- What the searches for a text in a row of texts answer (slices.Index, slices.Contains; the specification's l1At, l1In). -/
namespace Go.Proofs.YtjkkojefpecbfaaGreat
open Go.ChangeShapes Go.WideShapes Go.ChangeAt Go.RowKit

def StrsAt (w : World) (v : Value) (ss : List ByteArray) : Prop :=
  ∃ a cap, v = .slice a ss.length cap ∧ ss.length ≤ cap ∧ cap ≤ maxLen ∧
    (0 < ss.length → ∃ b off, a = some ⟨b, off, none⟩ ∧ ∀ j (h : j < ss.length), w.cell? ⟨b, off + j, none⟩ = some (.string ss[j]))
theorem StrsAt.keep {w w' : World} (hb : Below w.heap.size w w') {v : Value} {ss : List ByteArray} (h : StrsAt w v ss) : StrsAt w' v ss := by
  obtain ⟨a, cap, hv, h1, h2, h3⟩ := h
  refine ⟨a, cap, hv, h1, h2, fun h0 => ?_⟩
  obtain ⟨b, off, ha, hc⟩ := h3 h0
  exact ⟨b, off, ha, fun j h => keep_cell hb (hc j h)⟩

set_option maxHeartbeats 1000000 in
theorem index_any (v : Value) (ss : List ByteArray) (s : ByteArray) (w : World) (h : StrsAt w v ss) :
    Calls Tryz.prog 171 #[v, .string s] w fun e w' => e = .returned (.int .i64 (atS ss s)) ∧ w' = w := by
  obtain ⟨a, cap, rfl, hl, hm, hc⟩ := h
  unfold maxLen at hm
  have H : Hid (0 < ss.length → ∃ b off, a = some ⟨b, off, none⟩ ∧ ∀ j (h : j < ss.length), w.cell? ⟨b, off + j, none⟩ = some (.string ss[j])) := hc
  clear hc
  go_enter Tryz.func171, Tryz.ntmps171
  go_wp2_with fail
  go_loop [8] (fun i => ∃ k : Nat, k ≤ ss.length ∧ i = .int .i64 k ∧ Hid (∀ j (_ : j < ss.length), j < k → ss[j] ≠ s)) (fun i => ss.length - (intOf i).toNat)
  case atStart => exact ⟨0, by omega, rfl, fun j _ h => by omega⟩
  case round =>
    obtain ⟨k, hk, rfl, HA⟩ := hrel
    by_cases hlt : k < ss.length
    · obtain ⟨b, off, rfl, hc⟩ := H.out (by omega)
      have d := hc k hlt
      by_cases he : ss[k] = s
      · have hq : (s.toList == ss[k].toList) = true := by rw [beq_bytes]; simp [he]
        have HF : Hid (atS ss s = k) := atS_found ss s k hlt he (fun j hj => HA.out j (by omega) hj)
        clear hc H he
        go_wp2_with fail
        go_ret
        exact ⟨ret_int HF.out.symm, rfl⟩
      · have hq : (s.toList == ss[k].toList) = false := by rw [beq_bytes]; simp; exact fun e => he e.symm
        have HN : Hid (∀ j (_ : j < ss.length), j < k + 1 → ss[j] ≠ s) := by
          intro j h hj
          by_cases e : j = k
          · subst e; exact he
          · exact HA.out j h (by omega)
        clear hc H he
        go_wp2_with fail
        go_round
        case rel => exact ⟨k + 1, by omega, by go_num, HN⟩
        case measure => simp [intOf]; omega
    · have HF : Hid (atS ss s = -1) := atS_none ss s (fun j hj => HA.out j hj (by omega))
      go_wp2_with fail
      go_ret
      exact ⟨ret_int HF.out.symm, rfl⟩

set_option maxHeartbeats 1000000 in
theorem l1At_any (v : Value) (ss : List ByteArray) (s : ByteArray) (w : World) (h : StrsAt w v ss) :
    Calls Tryz.prog 162 #[v, .string s] w fun e w' => e = .returned (.int .i64 (atS ss s)) ∧ w' = w := by
  obtain ⟨a, cap, rfl, hl, hm, hc⟩ := h
  unfold maxLen at hm
  have H : Hid (0 < ss.length → ∃ b off, a = some ⟨b, off, none⟩ ∧ ∀ j (h : j < ss.length), w.cell? ⟨b, off + j, none⟩ = some (.string ss[j])) := hc
  clear hc
  go_enter Tryz.func162, Tryz.ntmps162
  go_wp2_with fail
  go_loop [5] (fun i => ∃ k : Nat, k ≤ ss.length ∧ i = .int .i64 k ∧ Hid (∀ j (_ : j < ss.length), j < k → ss[j] ≠ s)) (fun i => ss.length - (intOf i).toNat)
  case atStart => exact ⟨0, by omega, rfl, fun j _ h => by omega⟩
  case round =>
    obtain ⟨k, hk, rfl, HA⟩ := hrel
    by_cases hlt : k < ss.length
    · obtain ⟨b, off, rfl, hc⟩ := H.out (by omega)
      have d := hc k hlt
      by_cases he : ss[k] = s
      · have hq : (ss[k].toList == s.toList) = true := by rw [beq_bytes]; simp [he]
        have HF : Hid (atS ss s = k) := atS_found ss s k hlt he (fun j hj => HA.out j (by omega) hj)
        clear hc H he
        go_wp2_with fail
        go_ret
        exact ⟨ret_int HF.out.symm, rfl⟩
      · have hq : (ss[k].toList == s.toList) = false := by rw [beq_bytes]; simp [he]
        have HN : Hid (∀ j (_ : j < ss.length), j < k + 1 → ss[j] ≠ s) := by
          intro j h hj
          by_cases e : j = k
          · subst e; exact he
          · exact HA.out j h (by omega)
        clear hc H he
        go_wp2_with fail
        go_round
        case rel => exact ⟨k + 1, by omega, by go_num, HN⟩
        case measure => simp [intOf]; omega
    · have HF : Hid (atS ss s = -1) := atS_none ss s (fun j hj => HA.out j hj (by omega))
      go_wp2_with fail
      go_ret
      exact ⟨ret_int HF.out.symm, rfl⟩

set_option maxHeartbeats 400000 in
theorem contains_any (v : Value) (ss : List ByteArray) (s : ByteArray) (w : World) (h : StrsAt w v ss) :
    Calls Tryz.prog 194 #[v, .string s] w fun e w' => e = .returned (.bool (hasB ss s)) ∧ w' = w := by
  rw [← atS_mem]
  have H : Hid (StrsAt w v ss) := h
  obtain ⟨a, cap, rfl, _, _, _⟩ := h
  go_enter Tryz.func194, Tryz.ntmps194
  go_wp2_with (go_at_call 171; refine (index_any _ ss _ _ H.out).mono ?_; rintro e w' ⟨rfl, rfl⟩)
  go_ret
  exact ⟨rfl, rfl⟩
set_option maxHeartbeats 400000 in
theorem l1In_any (v : Value) (ss : List ByteArray) (s : ByteArray) (w : World) (h : StrsAt w v ss) :
    Calls Tryz.prog 192 #[v, .string s] w fun e w' => e = .returned (.bool (hasB ss s)) ∧ w' = w := by
  rw [← atS_mem]
  have H : Hid (StrsAt w v ss) := h
  obtain ⟨a, cap, rfl, _, _, _⟩ := h
  go_enter Tryz.func192, Tryz.ntmps192
  go_wp2_with (go_at_call 162; refine (l1At_any _ ss _ _ H.out).mono ?_; rintro e w' ⟨rfl, rfl⟩)
  go_ret
  exact ⟨rfl, rfl⟩
end Go.Proofs.YtjkkojefpecbfaaGreat
