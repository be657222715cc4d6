/- What the small functions around LevelOk answer, on both sides: how many kids a kind has, names of parameters, a node's fields, places in lists, equal rows. -/
import Derived.Test.YtcagcfhnbphggaaGreatDoorTo
namespace Go.Proofs.YtcagcfhnbphggaaGreatDoor
open Go.ChangeShapes Go.WideShapes Go.ChangeAt Go.RowKit

set_option maxHeartbeats 400000 in
theorem levelKids_any (k : Int) (w : World) : Calls Tryz.prog 86 #[.int .i64 k] w fun e w' => e = .returned (.int .i64 (kidsN k)) ∧ w' = w := by
  by_cases h1 : k = 1
  · subst h1; go_enter Tryz.func86, Tryz.ntmps86; go_wp2; go_ret; exact ⟨rfl, rfl⟩
  by_cases h5 : k = 5
  · subst h5; go_enter Tryz.func86, Tryz.ntmps86; go_wp2; go_ret; exact ⟨rfl, rfl⟩
  by_cases h2 : k = 2
  · subst h2; go_enter Tryz.func86, Tryz.ntmps86; go_wp2; go_ret; exact ⟨rfl, rfl⟩
  by_cases h3 : k = 3
  · subst h3; go_enter Tryz.func86, Tryz.ntmps86; go_wp2; go_ret; exact ⟨rfl, rfl⟩
  by_cases h4 : k = 4
  · subst h4; go_enter Tryz.func86, Tryz.ntmps86; go_wp2; go_ret; exact ⟨rfl, rfl⟩
  have HK : Hid (kidsN k = -1) := by show _ = _; unfold kidsN; rw [if_neg (by omega), if_neg (by omega), if_neg (by omega)]
  have e1 : (k == 1) = false := beq_eq_false_iff_ne.2 h1
  have e2 : (k == 2) = false := beq_eq_false_iff_ne.2 h2
  have e3 : (k == 3) = false := beq_eq_false_iff_ne.2 h3
  have e4 : (k == 4) = false := beq_eq_false_iff_ne.2 h4
  have e5 : (k == 5) = false := beq_eq_false_iff_ne.2 h5
  clear h1 h2 h3 h4 h5
  go_enter Tryz.func86, Tryz.ntmps86; go_wp2; go_ret; exact ⟨ret_int HK.out.symm, rfl⟩

set_option maxHeartbeats 400000 in
theorem paramNameOk_any (s : ByteArray) (w : World) (hs : s.size ≤ maxLen) : Calls Tryz.prog 98 #[.string s] w fun e w' => e = .returned (.bool (paramB s)) ∧ w' = w := by
  have HP : Hid (paramB s = (shortB s && !(s.toList == [109, 97, 120]) && !(s.toList == [105, 109, 97, 120]))) := rfl
  cases h : shortB s
  all_goals
    rw [h] at HP
    cases h1 : (s.toList == [109, 97, 120])
    all_goals
      rw [h1] at HP
      go_enter Tryz.func98, Tryz.ntmps98
      go_wp2_with (go_at_call 70; refine (implShort_any _ _ hs).mono ?_; rintro e w' ⟨rfl, rfl⟩)
      go_ret
      exact ⟨ret_bool HP.out.symm, rfl⟩
set_option maxHeartbeats 400000 in
theorem l1ParamOk_any (s : ByteArray) (w : World) (hs : s.size ≤ maxLen) : Calls Tryz.prog 79 #[.string s] w fun e w' => e = .returned (.bool (paramB s)) ∧ w' = w := by
  have HP : Hid (paramB s = (shortB s && !(s.toList == [109, 97, 120]) && !(s.toList == [105, 109, 97, 120]))) := rfl
  cases h : shortB s
  all_goals
    rw [h] at HP
    cases h1 : (s.toList == [109, 97, 120])
    all_goals
      rw [h1] at HP
      go_enter Tryz.func79, Tryz.ntmps79
      go_wp2_with (go_at_call 43; refine (specShort_any _ _ hs).mono ?_; rintro e w' ⟨rfl, rfl⟩)
      go_ret
      exact ⟨ret_bool HP.out.symm, rfl⟩
set_option maxHeartbeats 400000 in
theorem levelFieldsOk_any (nd : Nd) (kv : Value) (w : World) (hs : nd.s.size ≤ maxLen) (hk : IntsAt w kv nd.kids) : Calls Tryz.prog 87 #[.agg #[.int .i64 nd.k, .string nd.s, kv]] w fun e w' => e = .returned (.bool (fieldsB nd)) ∧ Below w.heap.size w w' := by
  obtain ⟨a, cap, rfl, _, _, _⟩ := hk
  by_cases h : nd.k = 5
  · have HF : Hid (fieldsB nd = paramB nd.s) := by show _ = _; rw [fieldsB, if_pos h]
    have hq : (nd.k == 5) = true := beq_iff_eq.2 h
    clear h
    go_enter Tryz.func87, Tryz.ntmps87
    go_wp2_with (go_at_call 98; refine (paramNameOk_any _ _ hs).mono ?_; rintro e w' ⟨rfl, rfl⟩)
    go_ret
    exact ⟨ret_bool HF.out.symm, (Below.refl _ _).alloc (Nat.le_refl _) _⟩
  · have HF : Hid (fieldsB nd = nd.s.toList.isEmpty) := by show _ = _; rw [fieldsB, if_neg h]
    have hq : (nd.k == 5) = false := beq_eq_false_iff_ne.2 h
    clear h
    go_enter Tryz.func87, Tryz.ntmps87
    go_wp2_with fail
    go_ret
    exact ⟨ret_bool HF.out.symm, (Below.refl _ _).alloc (Nat.le_refl _) _⟩

set_option maxHeartbeats 1000000 in
theorem equal_any (v1 v2 : Value) (ks1 ks2 : List Int) (w : World) (h1 : IntsAt w v1 ks1) (h2 : IntsAt w v2 ks2) :
    Calls Tryz.prog 48 #[v1, v2] w fun e w' => e = .returned (.bool (decide (ks1 = ks2))) ∧ ∃ n, w' = w.drewN n := by
  obtain ⟨a1, cap1, rfl, hl1, hm1, hc1⟩ := h1
  obtain ⟨a2, cap2, rfl, hl2, hm2, hc2⟩ := h2
  unfold maxLen at hm1 hm2
  by_cases hlen : ks1.length = ks2.length
  · have H1 : Hid (0 < ks1.length → ∃ b off, a1 = some ⟨b, off, none⟩ ∧ ∀ j (h : j < ks1.length), w.cell? ⟨b, off + j, none⟩ = some (.int .i64 ks1[j])) := hc1
    have H2 : Hid (0 < ks2.length → ∃ b off, a2 = some ⟨b, off, none⟩ ∧ ∀ j (h : j < ks2.length), w.cell? ⟨b, off + j, none⟩ = some (.int .i64 ks2[j])) := hc2
    have hq : ((ks1.length : Int) != (ks2.length : Int)) = false := by simp [hlen]
    have HL : Hid (ks1.length = ks2.length) := hlen
    have hle : ks1.length ≤ ks2.length := by omega
    clear hc1 hc2 hlen
    go_enter Tryz.func48, Tryz.ntmps48
    go_wp2_with fail
    go_loopw [13] (fun i wr => ∃ (k : Nat) (n : Nat), k ≤ ks1.length ∧ i = .int .i64 k ∧ wr = w.drewN n ∧ Hid (∀ j (h : j < ks1.length) (h2 : j < ks2.length), j < k → ks1[j] = ks2[j])) (fun i _ => ks1.length - (intOf i).toNat)
    case atStart => exact ⟨0, 0, by omega, rfl, rfl, fun j _ _ h => by omega⟩
    case round =>
      obtain ⟨k, n, hk, rfl, rfl, HA⟩ := hrel
      by_cases hlt : k < ks1.length
      · obtain ⟨b1, o1, rfl, c1⟩ := H1.out (by omega)
        obtain ⟨b2, o2, rfl, c2⟩ := H2.out (by omega)
        have d1 := c1 k hlt
        have d2 := c2 k (by omega)
        have hlt' : (k : Int) < ks1.length := by omega
        have hlt2 : (k : Int) < ks2.length := by omega
        by_cases he : ks1[k] = ks2[k]'(by omega)
        · have hne : (ks1[k] != ks2[k]'(by omega)) = false := by simp [he]
          have HN : Hid (∀ j (h : j < ks1.length) (h2 : j < ks2.length), j < k + 1 → ks1[j] = ks2[j]) := by
            intro j h h2 hj
            by_cases e : j = k
            · subst e; exact he
            · exact HA.out j h h2 (by omega)
          clear c1 c2 H1 H2 he
          go_wp2_with fail
          go_region
          go_wp2_with fail
          go_roundw
          case rel => exact ⟨k + 1, _, by omega, by go_num, rfl, HN⟩
          case measure => simp [intOf]; omega
        · have hne : (ks1[k] != ks2[k]'(by omega)) = true := by simp [he]
          have HN : Hid (decide (ks1 = ks2) = false) := by
            show _ = false
            rw [decide_eq_false_iff_not]; intro e; apply he; subst e; rfl
          clear c1 c2 H1 H2 he
          go_wp2_with fail
          go_region
          go_wp2_with fail
          go_ret
          exact ⟨ret_bool HN.out.symm, _, rfl⟩
      · have HN : Hid (decide (ks1 = ks2) = true) := by
          show _ = true
          rw [decide_eq_true_eq]
          apply List.ext_getElem HL.out
          intro j h h2
          exact HA.out j h h2 (by omega)
        go_wp2_with fail
        go_ret
        exact ⟨ret_bool HN.out.symm, n, rfl⟩
  · have hq : ((ks1.length : Int) != (ks2.length : Int)) = true := by
      rw [bne_iff_ne]; omega
    have HN : Hid (decide (ks1 = ks2) = false) := by
      show _ = false
      rw [decide_eq_false_iff_not]; intro e; apply hlen; rw [e]
    clear hc1 hc2 hlen
    go_enter Tryz.func48, Tryz.ntmps48
    go_wp2_with fail
    go_ret
    exact ⟨ret_bool HN.out.symm, 0, rfl⟩
end Go.Proofs.YtcagcfhnbphggaaGreatDoor

/- What the searches for a text in a row of texts answer (slices.Index, slices.Contains; the specification's l1At, l1In). -/
namespace Go.Proofs.YtcagcfhnbphggaaGreatDoor
open Go.ChangeShapes Go.WideShapes Go.ChangeAt Go.RowKit

def StrsAt (w : World) (v : Value) (ss : List ByteArray) : Prop :=
  ∃ a cap, v = .slice a ss.length cap ∧ ss.length ≤ cap ∧ cap ≤ maxLen ∧
    (0 < ss.length → ∃ b off, a = some ⟨b, off, none⟩ ∧ ∀ j (h : j < ss.length), w.cell? ⟨b, off + j, none⟩ = some (.string ss[j]))
theorem StrsAt.keep {w w' : World} (hb : Below w.heap.size w w') {v : Value} {ss : List ByteArray} (h : StrsAt w v ss) : StrsAt w' v ss := by
  obtain ⟨a, cap, hv, h1, h2, h3⟩ := h
  refine ⟨a, cap, hv, h1, h2, fun h0 => ?_⟩
  obtain ⟨b, off, ha, hc⟩ := h3 h0
  exact ⟨b, off, ha, fun j h => keep_cell hb (hc j h)⟩

set_option maxHeartbeats 1000000 in
theorem index_any (v : Value) (ss : List ByteArray) (s : ByteArray) (w : World) (h : StrsAt w v ss) :
    Calls Tryz.prog 106 #[v, .string s] w fun e w' => e = .returned (.int .i64 (atS ss s)) ∧ w' = w := by
  obtain ⟨a, cap, rfl, hl, hm, hc⟩ := h
  unfold maxLen at hm
  have H : Hid (0 < ss.length → ∃ b off, a = some ⟨b, off, none⟩ ∧ ∀ j (h : j < ss.length), w.cell? ⟨b, off + j, none⟩ = some (.string ss[j])) := hc
  clear hc
  go_enter Tryz.func106, Tryz.ntmps106
  go_wp2_with fail
  go_loop [8] (fun i => ∃ k : Nat, k ≤ ss.length ∧ i = .int .i64 k ∧ Hid (∀ j (_ : j < ss.length), j < k → ss[j] ≠ s)) (fun i => ss.length - (intOf i).toNat)
  case atStart => exact ⟨0, by omega, rfl, fun j _ h => by omega⟩
  case round =>
    obtain ⟨k, hk, rfl, HA⟩ := hrel
    by_cases hlt : k < ss.length
    · obtain ⟨b, off, rfl, hc⟩ := H.out (by omega)
      have d := hc k hlt
      by_cases he : ss[k] = s
      · have hq : (s.toList == ss[k].toList) = true := by rw [beq_bytes]; simp [he]
        have HF : Hid (atS ss s = k) := atS_found ss s k hlt he (fun j hj => HA.out j (by omega) hj)
        clear hc H he
        go_wp2_with fail
        go_ret
        exact ⟨ret_int HF.out.symm, rfl⟩
      · have hq : (s.toList == ss[k].toList) = false := by rw [beq_bytes]; simp; exact fun e => he e.symm
        have HN : Hid (∀ j (_ : j < ss.length), j < k + 1 → ss[j] ≠ s) := by
          intro j h hj
          by_cases e : j = k
          · subst e; exact he
          · exact HA.out j h (by omega)
        clear hc H he
        go_wp2_with fail
        go_round
        case rel => exact ⟨k + 1, by omega, by go_num, HN⟩
        case measure => simp [intOf]; omega
    · have HF : Hid (atS ss s = -1) := atS_none ss s (fun j hj => HA.out j hj (by omega))
      go_wp2_with fail
      go_ret
      exact ⟨ret_int HF.out.symm, rfl⟩

set_option maxHeartbeats 1000000 in
theorem l1At_any (v : Value) (ss : List ByteArray) (s : ByteArray) (w : World) (h : StrsAt w v ss) :
    Calls Tryz.prog 93 #[v, .string s] w fun e w' => e = .returned (.int .i64 (atS ss s)) ∧ w' = w := by
  obtain ⟨a, cap, rfl, hl, hm, hc⟩ := h
  unfold maxLen at hm
  have H : Hid (0 < ss.length → ∃ b off, a = some ⟨b, off, none⟩ ∧ ∀ j (h : j < ss.length), w.cell? ⟨b, off + j, none⟩ = some (.string ss[j])) := hc
  clear hc
  go_enter Tryz.func93, Tryz.ntmps93
  go_wp2_with fail
  go_loop [5] (fun i => ∃ k : Nat, k ≤ ss.length ∧ i = .int .i64 k ∧ Hid (∀ j (_ : j < ss.length), j < k → ss[j] ≠ s)) (fun i => ss.length - (intOf i).toNat)
  case atStart => exact ⟨0, by omega, rfl, fun j _ h => by omega⟩
  case round =>
    obtain ⟨k, hk, rfl, HA⟩ := hrel
    by_cases hlt : k < ss.length
    · obtain ⟨b, off, rfl, hc⟩ := H.out (by omega)
      have d := hc k hlt
      by_cases he : ss[k] = s
      · have hq : (ss[k].toList == s.toList) = true := by rw [beq_bytes]; simp [he]
        have HF : Hid (atS ss s = k) := atS_found ss s k hlt he (fun j hj => HA.out j (by omega) hj)
        clear hc H he
        go_wp2_with fail
        go_ret
        exact ⟨ret_int HF.out.symm, rfl⟩
      · have hq : (ss[k].toList == s.toList) = false := by rw [beq_bytes]; simp [he]
        have HN : Hid (∀ j (_ : j < ss.length), j < k + 1 → ss[j] ≠ s) := by
          intro j h hj
          by_cases e : j = k
          · subst e; exact he
          · exact HA.out j h (by omega)
        clear hc H he
        go_wp2_with fail
        go_round
        case rel => exact ⟨k + 1, by omega, by go_num, HN⟩
        case measure => simp [intOf]; omega
    · have HF : Hid (atS ss s = -1) := atS_none ss s (fun j hj => HA.out j hj (by omega))
      go_wp2_with fail
      go_ret
      exact ⟨ret_int HF.out.symm, rfl⟩

set_option maxHeartbeats 400000 in
theorem contains_any (v : Value) (ss : List ByteArray) (s : ByteArray) (w : World) (h : StrsAt w v ss) :
    Calls Tryz.prog 99 #[v, .string s] w fun e w' => e = .returned (.bool (hasB ss s)) ∧ w' = w := by
  rw [← atS_mem]
  have H : Hid (StrsAt w v ss) := h
  obtain ⟨a, cap, rfl, _, _, _⟩ := h
  go_enter Tryz.func99, Tryz.ntmps99
  go_wp2_with (go_at_call 106; refine (index_any _ ss _ _ H.out).mono ?_; rintro e w' ⟨rfl, rfl⟩)
  go_ret
  exact ⟨rfl, rfl⟩
set_option maxHeartbeats 400000 in
theorem l1In_any (v : Value) (ss : List ByteArray) (s : ByteArray) (w : World) (h : StrsAt w v ss) :
    Calls Tryz.prog 81 #[v, .string s] w fun e w' => e = .returned (.bool (hasB ss s)) ∧ w' = w := by
  rw [← atS_mem]
  have H : Hid (StrsAt w v ss) := h
  obtain ⟨a, cap, rfl, _, _, _⟩ := h
  go_enter Tryz.func81, Tryz.ntmps81
  go_wp2_with (go_at_call 93; refine (l1At_any _ ss _ _ H.out).mono ?_; rintro e w' ⟨rfl, rfl⟩)
  go_ret
  exact ⟨rfl, rfl⟩
end Go.Proofs.YtcagcfhnbphggaaGreatDoor
