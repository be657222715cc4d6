/- What the program's fewParams answers: whether at most six different parameters stand in the nodes. -/
import Derived.Test.YtpmpooekpeocdaaGreatStrs
import Derived.Deep.RegionWith
import Derived.Deep.QuietTactic
import Derived.BigQuiet
namespace Go.Proofs.YtpmpooekpeocdaaGreat
open Go.ChangeShapes Go.WideShapes Go.ChangeAt Go.RowKit

theorem bel_alloc {a w : World} (h : Below a.heap.size a w) (o : Obj) : Below a.heap.size a (w.alloc o) := h.alloc h.size o
theorem bel_trans {w w1 w2 : World} (h : Below w.heap.size w w1) (h2 : Below w1.heap.size w1 w2) : Below w.heap.size w w2 := h.trans (h2.mono h.size)
theorem size_set (w : World) (p : Addr) (u : Value) : (w.setCell p u).heap.size = w.heap.size := by simp [World.setCell]
theorem hide {p : Prop} (h : p) : Hid p := h
theorem unhide {p : Prop} (h : Hid p) : p := h
/-- The first texts of a row are these. -/
def Heads (xs : List Value) (ss : List ByteArray) : Prop := ∀ j (h : j < ss.length), xs[j]? = some (.string ss[j])
theorem heads_strs {w : World} {base R n cap : Nat} {e : TypeId} {xs : List Value} {ss : List ByteArray} (h : w.ownsRow base e 1 (.slice (some ⟨R, 0, none⟩) n cap) n xs) (hx : Heads xs ss) (hs : ss.length ≤ n) (c : Nat) (hc : ss.length ≤ c) (hm : c ≤ maxLen) :
    StrsAt w (.slice (some ⟨R, 0, none⟩) ss.length c) ss :=
  ⟨_, _, rfl, hc, hm, fun _ => ⟨R, 0, rfl, fun j hj => by rw [Nat.zero_add, h.cellAt j (by omega)]; exact hx j hj⟩⟩
theorem heads_put {xs : List Value} {ss : List ByteArray} (hx : Heads xs ss) (hl : ss.length < xs.length) (s : ByteArray) : Heads (xs.set ss.length (.string s)) (ss ++ [s]) := by
  intro j hj
  by_cases e : j = ss.length
  · subst e; rw [List.getElem?_set_self hl]; simp
  · rw [List.getElem?_set_ne (by omega), hx j (by simp at hj; omega), List.getElem_append_left (by simp at hj; omega)]

set_option maxHeartbeats 1000000 in
theorem fewParams_any (v : Value) (ns : List Nd) (w : World) (hns : NodesAt w v ns) (hsz : ∀ nd ∈ ns, nd.s.size ≤ maxLen) :
    Calls Tryz.prog 236 #[.agg #[v]] w fun e w' => e = .returned (.bool (decide ((namesOf ns).length ≤ 6))) ∧ Below w.heap.size w w' := by
  obtain ⟨a, cap, rfl, hl, hm, hc⟩ := hns
  unfold maxLen at hm
  have H : Hid (0 < ns.length → ∃ b off, a = some ⟨b, off, none⟩ ∧ ∀ i (h : i < ns.length), NodeAt w b (off + i * 3) ns[i]) := hc
  have HZ : Hid (∀ nd ∈ ns, nd.s.size ≤ maxLen) := hsz
  clear hc hsz
  have hst := World.ownsRow_lit (base := w.heap.size) (e := 336) (size := 1) (w.alloc (.cells #[.slice a ns.length cap] 200)) #[.string ⟨#[]⟩, .string ⟨#[]⟩, .string ⟨#[]⟩, .string ⟨#[]⟩, .string ⟨#[]⟩, .string ⟨#[]⟩] 6 (by simp) (by unfold maxLen; omega) rfl
  rw [World.size_alloc] at hst
  have HST := hide hst
  clear hst
  go_enter Tryz.func236, Tryz.ntmps236
  go_wp2_with fail
  go_loopw [4, 10] (fun c i wr => ∃ (k : Nat) (xs : List Value) (ss : List ByteArray), k ≤ ns.length ∧ i = .int .i64 k ∧ Hid (ss = namesOf (ns.take k)) ∧ ss.length ≤ 6 ∧ c = .int .i64 ss.length ∧ wr.ownsRow w.heap.size 336 1 (.slice (some ⟨w.heap.size + 1, 0, none⟩) 6 6) 6 xs ∧ Hid (Heads xs ss) ∧ w.heap.size + 1 < wr.heap.size ∧ Below w.heap.size w wr) (fun _ i _ => ns.length - (intOf i).toNat)
  case atStart => exact ⟨0, _, [], by omega, rfl, rfl, by simp, rfl, unhide HST, fun j h => by simp at h, by simp, ((Below.refl _ _).alloc (Nat.le_refl _) _).alloc (by simp) _⟩
  case round =>
    obtain ⟨k, xs, ss, hk, rfl, HS, h6, rfl, hown, HX, hz, hbel⟩ := hrel
    by_cases hlt : k < ns.length
    · obtain ⟨b, off, rfl, hc⟩ := H.out (by omega)
      obtain ⟨c1, c2, kv, c3, hkv⟩ := (hc k hlt).keep hbel
      have hsn := names_snoc ns k hlt
      rw [← HS.out] at hsn
      have hle := names_le ns (k + 1)
      rw [hsn] at hle
      have HSN : Hid (namesOf (ns.take (k + 1)) = addName ss ns[k]) := hsn
      have HLE : Hid ((addName ss ns[k]).length ≤ (namesOf ns).length) := hle
      obtain ⟨ka, kc, rfl, _, _, _⟩ := hkv
      clear hc H hsn hle
      generalize ns[k] = nd at *
      have hlt' : (k : Int) < ns.length := by omega
      by_cases h5 : nd.k = 5
      · have hq : (nd.k != 5) = false := by simp [h5]
        have HK5 : Hid (nd.k = 5) := h5
        clear h5
        have hstr := heads_strs hown HX.out h6 6 h6 (by unfold maxLen; omega)
        have hi6 : (ss.length : Int) ≤ 6 := by omega
        have hsl : ∀ W : World, (Instr.sliceAt 336 (.pointer (some ⟨w.heap.size + 1, 0, none⟩)) none (some (.int .i64 (ss.length : Int))) none).run Tryz.prog W = .ok (.slice (some ⟨w.heap.size + 1, 0, none⟩) ss.length 6) W := fun W => by
          rw [run_sliceAt_array_h W 336 ⟨w.heap.size + 1, 0, none⟩ (by kernel_rfl) .i64 _ (by omega) (by rw [show Tryz.prog.arrayLen 336 = 6 from by kernel_rfl]; omega)]
          simp [slicedAt, go_sem]
        cases hh : hasB ss nd.s
        · have HAD : Hid (addName ss nd = ss ++ [nd.s]) := by show _ = _; rw [addName, if_pos ⟨HK5.out, hh⟩]
          by_cases hfull : ss.length = 6
          · have HF : Hid (decide ((namesOf ns).length ≤ 6) = false) := by
              have := HLE.out
              rw [HAD.out] at this
              show _ = false
              simp at this ⊢; omega
            have hq6 : ((ss.length : Int) == 6) = true := by simp; omega
            clear hfull
            go_wp2_with fail
            go_region_with (go_at_call 117; refine (contains_any _ ss nd.s _ ?_).mono ?_; exact hstr.keep (by repeat (first | exact Below.refl _ _ | apply Below.drew | refine Below.alloc ?_ (Nat.le_refl _) _)); rintro e w1 ⟨rfl, rfl⟩)
            go_wp2_with fail
            go_ret
            exact ⟨ret_bool HF.out.symm, by repeat (first | exact hbel | apply Below.drew | refine Below.alloc ?_ hbel.size _)⟩
          · have hq6 : ((ss.length : Int) == 6) = false := by rw [beq_eq_false_iff_ne]; omega
            have hl6 : ss.length < 6 := by omega
            have hxl := hown.1
            have hf := hown.frozenAt ss.length
            have hcl := hown.cellAt ss.length (by omega)
            rw [List.getElem?_eq_getElem (by omega)] at hcl
            have HPUT := hide (heads_put HX.out (by omega) nd.s)
            have HNN : Hid (ss ++ [nd.s] = namesOf (ns.take (k + 1))) := by show _ = _; rw [HSN.out, HAD.out]
            clear hfull
            go_wp2_with fail
            go_region_with (go_at_call 117; refine (contains_any _ ss nd.s _ ?_).mono ?_; exact hstr.keep (by repeat (first | exact Below.refl _ _ | apply Below.drew | refine Below.alloc ?_ (Nat.le_refl _) _)); rintro e w1 ⟨rfl, rfl⟩)
            go_wp2_with fail
            go_roundw
            case rel => exact ⟨k + 1, _, ss ++ [nd.s], by omega, by go_num, HNN, by simp; omega, by simp, ((hown.stored ss.length (.string nd.s)).1.alloc _).drew, HPUT, by show _ < (World.alloc _ _).heap.size; rw [World.size_alloc, size_set]; omega, (bel_alloc (hbel.setCell (p := ⟨_, _, _⟩) (by show w.heap.size ≤ w.heap.size + 1; omega) _) _).drew⟩
            case measure => simp [intOf]; omega
        · have HAD : Hid (ss = namesOf (ns.take (k + 1))) := by show _ = _; rw [HSN.out, addName, if_neg (by simp [hh])]
          go_wp2_with fail
          go_region_with (go_at_call 117; refine (contains_any _ ss nd.s _ ?_).mono ?_; exact hstr.keep (by repeat (first | exact Below.refl _ _ | apply Below.drew | refine Below.alloc ?_ (Nat.le_refl _) _)); rintro e w1 ⟨rfl, rfl⟩)
          go_wp2_with fail
          go_roundw
          case rel => exact ⟨k + 1, xs, ss, by omega, by go_num, HAD, h6, rfl, (hown.alloc _).drew, HX, by show _ < (World.alloc _ _).heap.size; rw [World.size_alloc]; omega, (bel_alloc hbel _).drew⟩
          case measure => simp [intOf]; omega
      · have hq : (nd.k != 5) = true := by simp [h5]
        have HN : Hid (ss = namesOf (ns.take (k + 1))) := by show _ = _; rw [HSN.out, addName, if_neg (by simp [h5])]
        clear h5
        go_wp2_with fail
        go_region
        go_wp2_with fail
        go_roundw
        case rel => exact ⟨k + 1, xs, ss, by omega, by go_num, HN, h6, rfl, (hown.alloc _).drew, HX, by show _ < (World.alloc _ _).heap.size; rw [World.size_alloc]; omega, (bel_alloc hbel _).drew⟩
        case measure => simp [intOf]; omega
    · have HF : Hid (decide ((namesOf ns).length ≤ 6) = true) := by
        have := HS.out
        rw [List.take_of_length_le (by omega)] at this
        show _ = true
        rw [← this]; simp [h6]
      go_wp2_with fail
      go_ret
      exact ⟨ret_bool HF.out.symm, hbel⟩
end Go.Proofs.YtpmpooekpeocdaaGreat

/- What the counting of a term (szTerm and what it calls) answers. -/
namespace Go.Proofs.YtpmpooekpeocdaaGreat
open Go.ChangeShapes Go.WideShapes Go.ChangeAt Go.RowKit

theorem leftOf_neg {left : Int} {n : Nat} (h : left < n) : leftOf left n = -1 := by rw [leftOf, if_pos h]
theorem leftOf_pos {left : Int} {n : Nat} (h : ¬ left < n) : leftOf left n = left - n := by rw [leftOf, if_neg h]

set_option maxHeartbeats 1000000 in
theorem szLevelS_any (v : Value) (ls : List (List Nd)) (left : Int) (w : World) (hls : LevsAt w v ls) (hsz : ∀ l ∈ ls, LvLens l) (h0 : 0 ≤ left) (h1 : left ≤ 1048576) :
    Calls Tryz.prog 136 #[v, .int .i64 left] w fun e w' => e = .returned (.int .i64 (leftOf left (ls.length + sumL lvSize ls))) ∧ Below w.heap.size w w' := by
  obtain ⟨a, cap, rfl, hlc, hcm, hnode⟩ := hls
  unfold maxLen at hcm
  by_cases h : left < ls.length
  · go_enter Tryz.func136, Tryz.ntmps136
    go_wp2_with fail
    go_ret
    exact ⟨ret_int (by rw [leftOf, if_pos (by omega)]), Below.refl _ _⟩
  have HN : Hid (0 < ls.length → ∃ b off, a = some ⟨b, off, none⟩ ∧ ∀ i (h : i < ls.length), ∃ u, w.cell? ⟨b, off + i, none⟩ = some u ∧ NodesAt w u ls[i]) := hnode
  have HZ : Hid (∀ l ∈ ls, LvLens l) := hsz
  have d0 : decide (left - (ls.length : Int) < 0) = false := by simp; omega
  clear hnode hsz
  go_enter Tryz.func136, Tryz.ntmps136
  go_wp2_with fail
  go_loopw [1, 5] (fun l i wr => ∃ k : Nat, k ≤ ls.length ∧ i = .int .i64 k ∧ (sumL lvSize (ls.take k) : Int) ≤ left - ls.length ∧ l = .int .i64 (left - ls.length - sumL lvSize (ls.take k)) ∧ Below w.heap.size w wr) (fun _ i _ => ls.length - (intOf i).toNat)
  case atStart => exact ⟨0, by omega, rfl, by simp [sumL]; omega, by simp [sumL], Below.refl _ _⟩
  case round =>
    obtain ⟨k, hk, rfl, hsum, rfl, hbel⟩ := hrel
    by_cases hlt : k < ls.length
    · obtain ⟨b, off, ha, hc⟩ := HN.out (by omega)
      subst ha
      obtain ⟨u, hu, hnu⟩ := hc k hlt
      have hsnoc := sumL_snoc lvSize ls k hlt
      have hsl := HZ.out ls[k] (by simp)
      have hle := sumL_le lvSize ls (k + 1)
      generalize ls[k] = ns at *
      have hu' := keep_cell hbel hu
      have hnu' := hnu.keep hbel
      have HNU := hide hnu'
      obtain ⟨ua, uc, rfl, _, _, _⟩ := hnu'
      have HS : Hid (sumL lvSize (ls.take (k + 1)) = sumL lvSize (ls.take k) + (ns.length + nsSum ns)) := hsnoc
      have HSL := hide hsl
      clear hsnoc hc hu hnu hsl
      obtain ⟨L, hL⟩ : ∃ L : Int, L = left - ls.length - sumL lvSize (ls.take k) := ⟨_, rfl⟩
      rw [← hL]
      have hL0 : 0 ≤ L := by omega
      have hL1 : L ≤ 1048576 := by omega
      have HLL : Hid (L = left - ls.length - sumL lvSize (ls.take k)) := hL
      clear hL
      by_cases h3 : L < (ns.length + nsSum ns : Nat)
      · have HL : Hid (leftOf L (ns.length + nsSum ns) = -1) := leftOf_neg h3
        clear h3
        go_wp2_with (go_at_call 174; refine (szLevel_any _ ns _ _ HNU.out HSL.out hL0 hL1).mono ?_; rintro e w' ⟨rfl, hb2⟩; rw [HL.out])
        go_ret
        have := HLL.out; have := HS.out; have h3 := HL.out
        exact ⟨ret_int (by rw [leftOf, if_pos (by unfold leftOf at h3; split at h3 <;> omega)]), hbel.trans (hb2.mono hbel.size)⟩
      · obtain ⟨M, hM⟩ : ∃ M : Int, M = L - (ns.length + nsSum ns : Nat) := ⟨_, rfl⟩
        have HL : Hid (leftOf L (ns.length + nsSum ns) = M) := by show _ = _; rw [leftOf_pos h3, hM]
        have hge : 0 ≤ M := by omega
        have HM := hide hM
        clear h3 hM
        go_wp2_with (go_at_call 174; refine (szLevel_any _ ns _ _ HNU.out HSL.out hL0 hL1).mono ?_; rintro e w' ⟨rfl, hb2⟩; rw [HL.out])
        go_roundw
        case rel =>
          have := HLL.out; have := HS.out; have := HM.out
          exact ⟨k + 1, by omega, by go_num, by omega, by rw [show M = left - ls.length - sumL lvSize (ls.take (k + 1)) from by omega], hbel.trans (hb2.mono hbel.size)⟩
        case measure => simp [intOf]; omega
    · have hke : ls.take k = ls := List.take_of_length_le (by omega)
      rw [hke] at hsum ⊢
      clear hke
      go_wp2_with fail
      go_ret
      exact ⟨ret_int (by rw [leftOf, if_neg (by omega)]; omega), hbel⟩

set_option maxHeartbeats 1000000 in
theorem szNode_any (td : Td) (lv kv : Value) (left : Int) (w : World) (hs : TLens td) (hl : LevsAt w lv td.lv) (hk : IntsAt w kv td.kids) (h0 : 0 ≤ left) (h1 : left ≤ 1048576) :
    Calls Tryz.prog 102 #[.agg #[.int .i64 td.k, .int .i64 td.n, .int .i64 td.m, .string td.s, lv, kv], .int .i64 left] w fun e w' => e = .returned (.int .i64 (leftOf left (tdSize td))) ∧ Below w.heap.size w w' := by
  obtain ⟨hs1, hs2⟩ := hs
  unfold maxLen at hs1
  have HS2 := hide hs2
  clear hs2
  have HLV : Hid (∀ o, LevsAt (w.alloc o) lv td.lv) := fun o => hl.keep (((Below.refl w.heap.size w).alloc (Nat.le_refl _) o))
  have HKV : Hid (∀ o, IntsAt (w.alloc o) kv td.kids) := fun o => hk.keep (((Below.refl w.heap.size w).alloc (Nat.le_refl _) o))
  obtain ⟨la, lc, rfl, _, _, _⟩ := hl
  obtain ⟨ka, kc, rfl, _, _, _⟩ := hk
  by_cases h : left < td.s.size
  · go_enter Tryz.func102, Tryz.ntmps102
    go_wp2_with fail
    go_ret
    exact ⟨ret_int (by rw [leftOf, if_pos (by unfold tdSize; omega)]), (Below.refl _ _).alloc (Nat.le_refl _) _⟩
  obtain ⟨L, hL⟩ : ∃ L : Int, left - td.s.size = L := ⟨_, rfl⟩
  have hL0 : 0 ≤ L := by omega
  have hL1 : L ≤ 1048576 := by omega
  have d0 : decide (L < 0) = false := by simp; omega
  have hwL : IntKind.i64.wrap L = L := by rw [IntKind.wrap_i64]; omega
  by_cases h2 : L < (td.lv.length + sumL lvSize td.lv : Nat)
  · have HL : Hid (leftOf L (td.lv.length + sumL lvSize td.lv) = -1) := leftOf_neg h2
    have HF : Hid (leftOf left (tdSize td) = -1) := leftOf_neg (by unfold tdSize; omega)
    rw [HF.out]
    clear h h2
    go_enter Tryz.func102, Tryz.ntmps102
    go_wp2_with (go_at_call 136; refine (szLevelS_any _ td.lv _ _ (HLV.out _) HS2.out hL0 hL1).mono ?_; rintro e w1 ⟨rfl, hb1⟩; rw [HL.out])
    go_ret
    exact ⟨rfl, ((Below.refl _ _).alloc (Nat.le_refl _) _).trans (hb1.mono (by simp))⟩
  obtain ⟨M, hM⟩ : ∃ M : Int, M = L - (td.lv.length + sumL lvSize td.lv : Nat) := ⟨_, rfl⟩
  have HL : Hid (leftOf L (td.lv.length + sumL lvSize td.lv) = M) := by show _ = _; rw [leftOf_pos h2, hM]
  have hM0 : 0 ≤ M := by omega
  have hM1 : M ≤ 1048576 := by omega
  by_cases h3 : M < (td.kids.length : Nat)
  · have HL2 : Hid (leftOf M td.kids.length = -1) := leftOf_neg h3
    have HF : Hid (leftOf left (tdSize td) = -1) := leftOf_neg (by unfold tdSize; omega)
    rw [HF.out]
    clear h h2 h3 hM
    go_enter Tryz.func102, Tryz.ntmps102
    go_wp2_with fail
    refine (szLevelS_any _ td.lv _ _ (HLV.out _) HS2.out hL0 hL1).mono ?_
    rintro e w1 ⟨rfl, hb1⟩
    rw [HL.out]
    have hx : w1.cell? ⟨w.heap.size, 5, none⟩ = some (.slice ka td.kids.length kc) := keep_cell hb1 (by simp [go_sem])
    have HB1 := hide hb1
    clear hb1
    go_wp2_with (go_at_call 137; refine (szIntS_any _ td.kids _ _ ((HKV.out _).keep HB1.out) hM0 hM1).mono ?_; rintro e w2 ⟨rfl, rfl⟩; rw [HL2.out])
    go_ret
    exact ⟨rfl, ((Below.refl _ _).alloc (Nat.le_refl _) _).trans (HB1.out.mono (by simp))⟩
  obtain ⟨Q, hQ⟩ : ∃ Q : Int, Q = M - (td.kids.length : Nat) := ⟨_, rfl⟩
  have HL2 : Hid (leftOf M td.kids.length = Q) := by show _ = _; rw [leftOf_pos h3, hQ]
  have HF : Hid (leftOf left (tdSize td) = Q) := by show _ = _; rw [leftOf_pos (by unfold tdSize; omega)]; unfold tdSize; omega
  have hQ0 : 0 ≤ Q := by omega
  rw [HF.out]
  clear h h2 h3 hM hQ
  go_enter Tryz.func102, Tryz.ntmps102
  go_wp2_with fail
  refine (szLevelS_any _ td.lv _ _ (HLV.out _) HS2.out hL0 hL1).mono ?_
  rintro e w1 ⟨rfl, hb1⟩
  rw [HL.out]
  have hx : w1.cell? ⟨w.heap.size, 5, none⟩ = some (.slice ka td.kids.length kc) := keep_cell hb1 (by simp [go_sem])
  have HB1 := hide hb1
  clear hb1
  go_wp2_with (go_at_call 137; refine (szIntS_any _ td.kids _ _ ((HKV.out _).keep HB1.out) hM0 hM1).mono ?_; rintro e w2 ⟨rfl, rfl⟩; rw [HL2.out])
  go_ret
  exact ⟨rfl, ((Below.refl _ _).alloc (Nat.le_refl _) _).trans (HB1.out.mono (by simp))⟩

set_option maxHeartbeats 1000000 in
theorem szNodeS_any (v : Value) (ts : List Td) (left : Int) (w : World) (hns : TNodesAt w v ts) (hsz : ∀ td ∈ ts, TLens td) (h0 : 0 ≤ left) (h1 : left ≤ 1048576) :
    Calls Tryz.prog 69 #[v, .int .i64 left] w fun e w' => e = .returned (.int .i64 (leftOf left (tmSize ts))) ∧ Below w.heap.size w w' := by
  unfold tmSize
  obtain ⟨a, cap, rfl, hlc, hcm, hnode⟩ := hns
  unfold maxLen at hcm
  by_cases h : left < ts.length
  · go_enter Tryz.func69, Tryz.ntmps69
    go_wp2_with fail
    go_ret
    exact ⟨ret_int (by rw [leftOf, if_pos (by omega)]), Below.refl _ _⟩
  have HN : Hid (0 < ts.length → ∃ b off, a = some ⟨b, off, none⟩ ∧ ∀ i (h : i < ts.length), TNodeAt w b (off + i * 6) ts[i]) := hnode
  have HZ : Hid (∀ td ∈ ts, TLens td) := hsz
  have d0 : decide (left - (ts.length : Int) < 0) = false := by simp; omega
  clear hnode hsz
  go_enter Tryz.func69, Tryz.ntmps69
  go_wp2_with fail
  go_loopw [1, 5] (fun l i wr => ∃ k : Nat, k ≤ ts.length ∧ i = .int .i64 k ∧ (sumL tdSize (ts.take k) : Int) ≤ left - ts.length ∧ l = .int .i64 (left - ts.length - sumL tdSize (ts.take k)) ∧ Below w.heap.size w wr) (fun _ i _ => ts.length - (intOf i).toNat)
  case atStart => exact ⟨0, by omega, rfl, by simp [sumL]; omega, by simp [sumL], Below.refl _ _⟩
  case round =>
    obtain ⟨k, hk, rfl, hsum, rfl, hbel⟩ := hrel
    by_cases hlt : k < ts.length
    · obtain ⟨b, off, ha, hc⟩ := HN.out (by omega)
      subst ha
      obtain ⟨c1, c2, c3, c4, lv, c5, hlv, kv, c6, hkv⟩ := (hc k hlt).keep (Below.refl _ _)
      have hsnoc := sumL_snoc tdSize ts k hlt
      have hsl := HZ.out ts[k] (by simp)
      have hle := sumL_le tdSize ts (k + 1)
      generalize ts[k] = td at *
      have c1' := keep_cell hbel c1
      have c2' := keep_cell hbel c2
      have c3' := keep_cell hbel c3
      have c4' := keep_cell hbel c4
      have c5' := keep_cell hbel c5
      have c6' := keep_cell hbel c6
      have HLV := hide (hlv.keep hbel)
      have HKV := hide (hkv.keep hbel)
      have HSL := hide hsl
      have HS : Hid (sumL tdSize (ts.take (k + 1)) = sumL tdSize (ts.take k) + tdSize td) := hsnoc
      clear hsnoc hc c1 c2 c3 c4 c5 c6 hsl
      obtain ⟨la, lc, rfl, _, _, _⟩ := hlv
      obtain ⟨ka, kc, rfl, _, _, _⟩ := hkv
      obtain ⟨L, hL⟩ : ∃ L : Int, L = left - ts.length - sumL tdSize (ts.take k) := ⟨_, rfl⟩
      rw [← hL]
      have hL0 : 0 ≤ L := by omega
      have hL1 : L ≤ 1048576 := by omega
      have HLL : Hid (L = left - ts.length - sumL tdSize (ts.take k)) := hL
      clear hL
      by_cases h3 : L < (tdSize td : Nat)
      · have HL : Hid (leftOf L (tdSize td) = -1) := leftOf_neg h3
        have HH3 := hide h3
        clear h3
        go_wp2_with (go_at_call 102; refine (szNode_any td _ _ _ _ HSL.out HLV.out HKV.out hL0 hL1).mono ?_; rintro e w' ⟨rfl, hb2⟩; rw [HL.out])
        go_ret
        have := HLL.out; have := HS.out; have := HH3.out
        exact ⟨ret_int (by rw [leftOf, if_pos (by omega)]), hbel.trans (hb2.mono hbel.size)⟩
      · obtain ⟨M, hM⟩ : ∃ M : Int, M = L - (tdSize td : Nat) := ⟨_, rfl⟩
        have HL : Hid (leftOf L (tdSize td) = M) := by show _ = _; rw [leftOf_pos h3, hM]
        have hge : 0 ≤ M := by omega
        have HM := hide hM
        clear h3 hM
        go_wp2_with (go_at_call 102; refine (szNode_any td _ _ _ _ HSL.out HLV.out HKV.out hL0 hL1).mono ?_; rintro e w' ⟨rfl, hb2⟩; rw [HL.out])
        go_roundw
        case rel =>
          have := HLL.out; have := HS.out; have := HM.out
          exact ⟨k + 1, by omega, by go_num, by omega, by rw [show M = left - ts.length - sumL tdSize (ts.take (k + 1)) from by omega], hbel.trans (hb2.mono hbel.size)⟩
        case measure => simp [intOf]; omega
    · have hke : ts.take k = ts := List.take_of_length_le (by omega)
      rw [hke] at hsum ⊢
      clear hke
      go_wp2_with fail
      go_ret
      exact ⟨ret_int (by rw [leftOf, if_neg (by omega)]; omega), hbel⟩

set_option maxHeartbeats 1000000 in
theorem szTerm_any (v : Value) (ts : List Td) (left : Int) (w : World) (hns : TNodesAt w v ts) (hsz : ∀ td ∈ ts, TLens td) (h0 : 0 ≤ left) (h1 : left ≤ 1048576) :
    Calls Tryz.prog 35 #[.agg #[v], .int .i64 left] w fun e w' => e = .returned (.int .i64 (leftOf left (tmSize ts))) ∧ Below w.heap.size w w' := by
  have HN : Hid (∀ o, TNodesAt (w.alloc o) v ts) := fun o => hns.keep ((Below.refl w.heap.size w).alloc (Nat.le_refl _) o)
  have HZ := hide hsz
  obtain ⟨a, cap, rfl, hlc, hcm, _⟩ := hns
  clear hsz
  by_cases h : left < (tmSize ts : Nat)
  · have HL : Hid (leftOf left (tmSize ts) = -1) := leftOf_neg h
    clear h
    rw [HL.out]
    go_enter Tryz.func35, Tryz.ntmps35
    go_wp2_with (go_at_call 69; refine (szNodeS_any _ ts _ _ (HN.out _) HZ.out h0 h1).mono ?_; rintro e w' ⟨rfl, hb2⟩; rw [HL.out])
    go_ret
    exact ⟨rfl, ((Below.refl _ _).alloc (Nat.le_refl _) _).trans (hb2.mono (by simp))⟩
  · obtain ⟨M, hM⟩ : ∃ M : Int, M = left - (tmSize ts : Nat) := ⟨_, rfl⟩
    have hM0 : 0 ≤ M := by omega
    have HM : Hid (leftOf left (tmSize ts) = M) := by show leftOf _ _ = _; rw [leftOf_pos h, hM]
    clear h hM
    rw [HM.out]
    go_enter Tryz.func35, Tryz.ntmps35
    go_wp2_with (go_at_call 69; refine (szNodeS_any _ ts _ _ (HN.out _) HZ.out h0 h1).mono ?_; rintro e w' ⟨rfl, hb2⟩; rw [HM.out])
    go_ret
    exact ⟨rfl, ((Below.refl _ _).alloc (Nat.le_refl _) _).trans (hb2.mono (by simp))⟩
end Go.Proofs.YtpmpooekpeocdaaGreat

/- A region that draws its order, whose own operations only read and whose callees write nothing below a block number, walked once in the order of the text. -/
namespace Go.Proofs.YtpmpooekpeocdaaGreat
open Go.ChangeShapes Go.WideShapes Go.ChangeAt Go.RowKit

/-- A world that is as w below block number B. -/
structure Bel (B : Nat) (w : World) where
  w' : World
  h : Below B w w'
theorem bel_ne (B : Nat) (w : World) : Nonempty (Bel B w) := ⟨⟨w, Below.refl B w⟩⟩
theorem wp_region_bel {P : Program} {id : Nat} {Q : Exit → Act → World → Prop} {a : Act} {w : World} {l : List Oper} (B : Nat) (hm : P.follows .mixedOrders = true) (hB : Region.lexB .any l.toArray = true)
    (h : wpQuiet P l.toArray (fun w' => ∃ p : Bel B w, w' = p.w') (fun a' => ∀ w', (∃ p : Bel B w, w' = p.w') → Q .normal a' w') l a) : (Code.region id l.toArray true).wp P Q a w :=
  wp_region_quiet (C := fun w' => ∃ p : Bel B w, w' = p.w') hm hB ⟨⟨w.drew, (Below.refl B w).drew⟩, rfl⟩ (by simpa using h)
theorem calls_bel {P : Program} {f : FuncId} {args : Array Value} {B : Nat} {w : World} {p : Bel B w} {v : Value} (hB : B ≤ w.heap.size)
    (h : Calls P f args p.w' fun e w' => e = .returned v ∧ Below p.w'.heap.size p.w' w') : Calls P f args p.w' fun e w'' => e = .returned v ∧ ∃ q : Bel B w, w'' = q.w' :=
  h.mono fun _ w'' ⟨he, hb⟩ => ⟨he, ⟨w'', p.h.trans (hb.mono (Nat.le_trans hB p.h.size))⟩, rfl⟩
theorem calls_bel_same {P : Program} {f : FuncId} {args : Array Value} {B : Nat} {w : World} {p : Bel B w} {v : Value}
    (h : Calls P f args p.w' fun e w' => e = .returned v ∧ w' = p.w') : Calls P f args p.w' fun e w'' => e = .returned v ∧ ∃ q : Bel B w, w'' = q.w' :=
  h.mono fun _ _ ⟨he, hb⟩ => ⟨he, p, hb⟩
theorem Bel.cell {B : Nat} {w : World} (p : Bel B w) {b o : Nat} {v : Value} (hb : b < B) (h : w.cell? ⟨b, o, none⟩ = some v) : p.w'.cell? ⟨b, o, none⟩ = some v := by
  rw [p.h.cell (p := ⟨b, o, none⟩) hb]; exact h
end Go.Proofs.YtpmpooekpeocdaaGreat
