/- What markStringS and heldStringS answer at a row of texts of the call's own. -/
import Derived.Test.YtpmpooekpeocdaaGreatStrO
import Derived.Test.YtpmpooekpeocdaaGreatStrs
import Derived.Test.YtpmpooekpeocdaaGreatStrS
import Derived.Test.YtpmpooekpeocdaaGreatTQ
import Derived.Test.YtpmpooekpeocdaaGreatDcB
namespace Go.Proofs.YtpmpooekpeocdaaGreat
open Go.ChangeShapes Go.WideShapes Go.ChangeAt Go.RowKit

/-- The texts of numbers from k on. -/
def mts (k n : Nat) : List ByteArray := (List.range n).map (fun j => mt (k + j))
theorem mts_len (k n : Nat) : (mts k n).length = n := by simp [mts]
theorem mts_get (k n j : Nat) (h : j < n) : (mts k n)[j]'(by rw [mts_len]; exact h) = mt (k + j) := by simp [mts]

set_option maxRecDepth 20000 in
set_option maxHeartbeats 2000000 in
theorem markStr_any (lo hi : Nat) (v : Value) (ss : List ByteArray) (k : Nat) (w : World) (h : w.ownsRow lo 9 1 v ss.length (ss.map Value.string)) (hv : ∀ b, v.ownBlock = some b → b < hi) (hlo : lo ≤ w.heap.size) (hn : ss.length ≤ 1048576) (hk1 : 1 ≤ k) (hk : k ≤ 50000000) :
    Calls Tryz.prog 19 #[v, .int .i64 k] w fun e w' => e = .returned (.int .i64 ((k + ss.length : Nat) : Int)) ∧ w'.ownsRow lo 9 1 v (mts k ss.length).length ((mts k ss.length).map Value.string) ∧ Chg lo hi w w' := by
  by_cases h0 : ss.length = 0
  · have hks : ss = [] := List.eq_nil_of_length_eq_zero h0
    subst hks
    have HH := hide (show w.ownsRow lo 9 1 v (mts k ([] : List ByteArray).length).length ((mts k ([] : List ByteArray).length).map Value.string) from h)
    obtain ⟨a, cap, rfl⟩ := row_form h
    clear h hv
    go_enter Tryz.func19, Tryz.ntmps19
    go_wp2_with fail
    go_loopw [1, 5] (fun m i wr => m = .int .i64 k ∧ i = .int .i64 0 ∧ w = wr) (fun _ _ _ => 0)
    case atStart => exact ⟨rfl, rfl, rfl⟩
    case round =>
      obtain ⟨rfl, rfl, rfl⟩ := hrel
      go_wp2_with fail
      go_ret
      exact ⟨by simp, HH.out, Chg.refl _ _ _⟩
  · obtain ⟨g, cap, hvv⟩ : ∃ g cap, v = .slice (some ⟨g, 0, none⟩) ss.length cap := by
      rcases h.2 with ⟨_, h1⟩ | ⟨g, cap, _, h1, _⟩
      · omega
      · exact ⟨g, cap, h1⟩
    subst hvv
    have hgl := (h.lt g rfl).1
    have hgh := hv g rfl
    have HO := hide h
    clear h hv
    go_enter Tryz.func19, Tryz.ntmps19
    go_wp2_with fail
    go_loopw [1, 5] (fun m i wr => ∃ (j : Nat) (xs : List Value), j ≤ ss.length ∧ i = .int .i64 j ∧ m = .int .i64 ((k + j : Nat) : Int) ∧ wr.ownsRow lo 9 1 (.slice (some ⟨g, 0, none⟩) ss.length cap) ss.length xs ∧ Hid (∀ q, q < j → xs[q]? = some (.string (mt (k + q)))) ∧ Hid (Chg lo hi w wr)) (fun _ i _ => ss.length - (intOf i).toNat)
    case atStart => exact ⟨0, _, by omega, rfl, rfl, HO.out, fun q h => by omega, Chg.refl _ _ _⟩
    case round =>
      obtain ⟨j, xs, hj, rfl, rfl, hownr, HX, HC⟩ := hrel
      clear HO
      by_cases hlt : j < ss.length
      · have hlt' : (j : Int) < ss.length := by omega
        have hxl0 := hownr.1
        have HX2 : Hid (∀ q, q < j + 1 → (xs.set j (.string (mt (k + j))))[q]? = some (.string (mt (k + q)))) := by
          show ∀ q, _
          intro q hq
          by_cases e : j = q
          · subst e; rw [List.getElem?_set_self (by omega)]
          · rw [List.getElem?_set_ne e]; exact HX.out q (by omega)
        obtain ⟨K, hK⟩ : ∃ K, K = k + j := ⟨_, rfl⟩
        have HKE := hide hK
        rw [← hK] at HX2 ⊢
        have hK1 : 1 ≤ K := by omega
        have hK2 : K ≤ 60000000 := by omega
        have HMT := hide (markText_any K wr hK1 (by omega))
        have HOW := hide hownr
        clear hK hownr HX
        go_wp2_with fail
        refine HMT.out.mono ?_
        rintro e w2 ⟨rfl, hb2⟩
        have hs2 := hb2.size
        have ho2 := row_keep hb2 HOW.out
        have hst := (ho2.stored j (.string (mt K))).1
        have HST := hide hst
        have hfz := ho2.frozenAt j
        have hce := ho2.cellAt j (by omega)
        rw [List.getElem?_eq_getElem (by omega)] at hce
        have HC2 := hide ((HC.out.trans (Chg.of (hi := hi) hb2 (by have := HC.out.1.size; omega))).trans (Chg.set w2 (p := ⟨g, j, none⟩) hgl hgh (.string (mt K))))
        clear hst ho2 hb2 HMT
        go_wp2_with fail
        go_roundw
        case rel => exact ⟨j + 1, _, by omega, by go_num, by have := HKE.out; rw [show k + (j + 1) = K + 1 by omega]; go_num, HST.out, HX2, HC2⟩
        case measure => simp [intOf]; omega
      · have hjn : j = ss.length := by omega
        subst hjn
        have hxs : xs = (mts k ss.length).map Value.string := by
          refine List.ext_getElem? fun q => ?_
          by_cases hq : q < ss.length
          · rw [HX.out q hq, List.getElem?_map, List.getElem?_eq_getElem (by rw [mts_len]; exact hq), mts_get k _ q hq]; rfl
          · have h1 := hownr.1
            rw [List.getElem?_eq_none (by omega), List.getElem?_eq_none (by rw [List.length_map, mts_len]; omega)]
        have HK : Hid (wr.ownsRow lo 9 1 (.slice (some ⟨g, 0, none⟩) ss.length cap) (mts k ss.length).length ((mts k ss.length).map Value.string)) := by
          show World.ownsRow _ _ _ _ _ _ _
          rw [mts_len, ← hxs]
          exact hownr
        clear hownr hxs HX
        go_wp2_with fail
        go_ret
        exact ⟨rfl, HK.out, HC.out⟩

set_option maxRecDepth 20000 in
set_option maxHeartbeats 2000000 in
theorem heldStr_any (v : Value) (n k : Nat) (w : World) (h : StrsAt w v (mts k n)) (hl : n ≤ 1048576) (hk1 : 1 ≤ k) (hk : k ≤ 50000000) :
    Calls Tryz.prog 20 #[v, .int .i64 k] w fun e w' => e = .returned (.int .i64 ((k + n : Nat) : Int)) ∧ Below w.heap.size w w' := by
  obtain ⟨a, cap, rfl, h1, h2, hc⟩ := h
  rw [mts_len] at h1 ⊢
  have HC := hide hc
  unfold maxLen at h2
  clear hc
  go_enter Tryz.func20, Tryz.ntmps20
  go_wp2_with fail
  go_loopw [1, 5] (fun m i wr => ∃ (j : Nat), j ≤ n ∧ i = .int .i64 j ∧ m = .int .i64 ((k + j : Nat) : Int) ∧ Hid (Below w.heap.size w wr)) (fun _ i _ => n - (intOf i).toNat)
  case atStart => exact ⟨0, by omega, rfl, rfl, Below.refl _ _⟩
  case round =>
    obtain ⟨j, hj, rfl, rfl, HB⟩ := hrel
    by_cases hlt : j < n
    · obtain ⟨b, off, rfl, hcell⟩ := HC.out (by rw [mts_len]; omega)
      have hc := hcell j (by rw [mts_len]; exact hlt)
      rw [mts_get k n j hlt] at hc
      have hc := keep_cell HB.out hc
      have hlt' : (j : Int) < n := by omega
      obtain ⟨K, hK⟩ : ∃ K, K = k + j := ⟨_, rfl⟩
      have HKE := hide hK
      rw [← hK] at hc ⊢
      have hK1 : 1 ≤ K := by omega
      have hK2 : K ≤ 60000000 := by omega
      have HMT := hide (fun W => markText_any K W hK1 (by omega))
      have hself2 : ((mt K).toList != (mt K).toList) = false := by simp
      clear hcell hK
      generalize mt K = ms at *
      go_wp2_with fail
      go_region_held3 (fun w' => w'.cell? ⟨b, off + j, none⟩ = some (.string ms))
        (first
          | go_keep
          | exact keep_cell hb1 (by assumption)
          | fail)
        (first
          | (go_at_call 50; refine (HMT.out _).mono ?_; rintro e w1 ⟨rfl, hb1⟩)
          | fail)
      all_goals
        have hbb := (show Below wr.heap.size wr wr.drew from ⟨rfl, rfl, rfl, Nat.le_refl _, fun _ _ => rfl⟩).trans (hb1.mono (Nat.le_refl _))
        have HB1 := hide (bel_trans HB.out hbb)
        clear hb1 hbb
        go_wp2_with fail
        go_roundw
        case rel => exact ⟨j + 1, by omega, by go_num, by have := HKE.out; rw [show k + (j + 1) = K + 1 by omega]; go_num, HB1⟩
        case measure => simp [intOf]; omega
    · have hjn : j = n := by omega
      subst hjn
      go_wp2_with fail
      go_ret
      exact ⟨rfl, HB.out⟩
end Go.Proofs.YtpmpooekpeocdaaGreat

/- What the comparing of two terms (eqTerm and what it calls) answers at two terms with the same nodes: true; nothing that was there is written. -/
namespace Go.Proofs.YtpmpooekpeocdaaGreat
open Go.ChangeShapes Go.WideShapes Go.ChangeAt Go.RowKit

set_option maxHeartbeats 1000000 in
theorem eqLevelS_any (v1 v2 : Value) (ls : List (List Nd)) (w : World) (h1 : LevsAt w v1 ls) (h2 : LevsAt w v2 ls) :
    Calls Tryz.prog 158 #[v1, v2] w fun e w' => e = .returned (.bool true) ∧ Below w.heap.size w w' := by
  obtain ⟨a1, cap1, rfl, hl1, hm1, hc1⟩ := h1
  obtain ⟨a2, cap2, rfl, hl2, hm2, hc2⟩ := h2
  unfold maxLen at hm1 hm2
  have H1 : Hid (0 < ls.length → ∃ b off, a1 = some ⟨b, off, none⟩ ∧ ∀ i (h : i < ls.length), ∃ u, w.cell? ⟨b, off + i, none⟩ = some u ∧ NodesAt w u ls[i]) := hc1
  have H2 : Hid (0 < ls.length → ∃ b off, a2 = some ⟨b, off, none⟩ ∧ ∀ i (h : i < ls.length), ∃ u, w.cell? ⟨b, off + i, none⟩ = some u ∧ NodesAt w u ls[i]) := hc2
  clear hc1 hc2
  go_enter Tryz.func158, Tryz.ntmps158
  go_wp2_with fail
  go_loopw [5] (fun i wr => ∃ (k : Nat), k ≤ ls.length ∧ i = .int .i64 k ∧ Below w.heap.size w wr) (fun i _ => ls.length - (intOf i).toNat)
  case atStart => exact ⟨0, by omega, rfl, Below.refl _ _⟩
  case round =>
    obtain ⟨k, hk, rfl, hbel⟩ := hrel
    by_cases hlt : k < ls.length
    · obtain ⟨b1, o1, rfl, c1⟩ := H1.out (by omega)
      obtain ⟨b2, o2, rfl, c2⟩ := H2.out (by omega)
      obtain ⟨u1, p1, p2⟩ := c1 k hlt
      obtain ⟨u2, q1, q2⟩ := c2 k hlt
      have p1' := keep_cell hbel p1
      have q1' := keep_cell hbel q1
      have P2 := hide (p2.keep hbel)
      have Q2 := hide (q2.keep hbel)
      have hlt' : (k : Int) < ls.length := by omega
      clear c1 c2 H1 H2 p1 q1
      generalize ls[k] = ns at *
      obtain ⟨ua, uc, rfl, _, _, _⟩ := p2
      obtain ⟨va, vc, rfl, _, _, _⟩ := q2
      go_wp2_with fail
      go_region_with (go_at_call 189; refine (eqLevel_any _ _ ns _ ?_ ?_).mono ?_; exact P2.out.keep (below_drewN (Below.refl _ _) _); exact Q2.out.keep (below_drewN (Below.refl _ _) _); rintro e w1 ⟨rfl, hb⟩)
      all_goals
        go_wp2_with fail
        go_roundw
        case rel => exact ⟨k + 1, by omega, by go_num, hbel.drew.trans (hb.mono hbel.size)⟩
        case measure => simp [intOf]; omega
    · go_wp2_with fail
      go_ret
      exact ⟨rfl, hbel⟩

set_option maxHeartbeats 1000000 in
theorem eqNode_any (td : Td) (l1 k1 l2 k2 : Value) (w : World) (hl1 : LevsAt w l1 td.lv) (hl2 : LevsAt w l2 td.lv) (h1 : IntsAt w k1 td.kids) (h2 : IntsAt w k2 td.kids) :
    Calls Tryz.prog 118 #[.agg #[.int .i64 td.k, .int .i64 td.n, .int .i64 td.m, .string td.s, l1, k1], .agg #[.int .i64 td.k, .int .i64 td.n, .int .i64 td.m, .string td.s, l2, k2]] w fun e w' => e = .returned (.bool true) ∧ Below w.heap.size w w' := by
  have b2 : ∀ o1 o2, Below w.heap.size w ((w.alloc o1).alloc o2) := fun o1 o2 => (((Below.refl w.heap.size w).alloc (Nat.le_refl _) o1).alloc (by simp) o2)
  have H1 : Hid (∀ o1 o2, IntsAt ((w.alloc o1).alloc o2) k1 td.kids) := fun o1 o2 => h1.keep (b2 o1 o2)
  have H2 : Hid (∀ o1 o2, IntsAt ((w.alloc o1).alloc o2) k2 td.kids) := fun o1 o2 => h2.keep (b2 o1 o2)
  have L1 : Hid (∀ o1 o2, LevsAt ((w.alloc o1).alloc o2) l1 td.lv) := fun o1 o2 => hl1.keep (b2 o1 o2)
  have L2 : Hid (∀ o1 o2, LevsAt ((w.alloc o1).alloc o2) l2 td.lv) := fun o1 o2 => hl2.keep (b2 o1 o2)
  have HB2 := hide b2
  obtain ⟨a1, cap1, rfl, _, _, _⟩ := h1
  obtain ⟨a2, cap2, rfl, _, _, _⟩ := h2
  obtain ⟨la1, lc1, rfl, _, _, _⟩ := hl1
  obtain ⟨la2, lc2, rfl, _, _, _⟩ := hl2
  clear b2
  go_enter Tryz.func118, Tryz.ntmps118
  go_wp2_with fail
  refine (eqLevelS_any _ _ td.lv _ (L1.out _ _) (L2.out _ _)).mono ?_
  rintro e w1 ⟨rfl, hb⟩
  have x1 : w1.cell? ⟨w.heap.size, 5, none⟩ = some (.slice a1 td.kids.length cap1) := keep_cell hb (by simp [go_sem])
  have x2 : w1.cell? ⟨w.heap.size + 1, 5, none⟩ = some (.slice a2 td.kids.length cap2) := keep_cell hb (by simp [go_sem])
  have HB := hide hb
  clear hb
  go_wp2_with (go_at_call 159; refine (eqIntS_any _ _ td.kids _ ((H1.out _ _).keep HB.out) ((H2.out _ _).keep HB.out)).mono ?_; rintro e w2 ⟨rfl, n, rfl⟩)
  go_ret
  exact ⟨rfl, below_drewN ((HB2.out _ _).trans (HB.out.mono (by simp; omega))) n⟩

set_option maxHeartbeats 1000000 in
theorem eqNodeS_any (v1 v2 : Value) (ts : List Td) (w : World) (h1 : TNodesAt w v1 ts) (h2 : TNodesAt w v2 ts) :
    Calls Tryz.prog 82 #[v1, v2] w fun e w' => e = .returned (.bool true) ∧ Below w.heap.size w w' := by
  obtain ⟨a1, cap1, rfl, hl1, hm1, hc1⟩ := h1
  obtain ⟨a2, cap2, rfl, hl2, hm2, hc2⟩ := h2
  unfold maxLen at hm1 hm2
  have H1 : Hid (0 < ts.length → ∃ b off, a1 = some ⟨b, off, none⟩ ∧ ∀ i (h : i < ts.length), TNodeAt w b (off + i * 6) ts[i]) := hc1
  have H2 : Hid (0 < ts.length → ∃ b off, a2 = some ⟨b, off, none⟩ ∧ ∀ i (h : i < ts.length), TNodeAt w b (off + i * 6) ts[i]) := hc2
  clear hc1 hc2
  go_enter Tryz.func82, Tryz.ntmps82
  go_wp2_with fail
  go_loopw [5] (fun i wr => ∃ (k : Nat), k ≤ ts.length ∧ i = .int .i64 k ∧ Below w.heap.size w wr) (fun i _ => ts.length - (intOf i).toNat)
  case atStart => exact ⟨0, by omega, rfl, Below.refl _ _⟩
  case round =>
    obtain ⟨k, hk, rfl, hbel⟩ := hrel
    by_cases hlt : k < ts.length
    · obtain ⟨b1, o1, rfl, c1⟩ := H1.out (by omega)
      obtain ⟨b2, o2, rfl, c2⟩ := H2.out (by omega)
      have n1 := (c1 k hlt).keep hbel
      have n2 := (c2 k hlt).keep hbel
      have hlt' : (k : Int) < ts.length := by omega
      clear c1 c2 H1 H2
      generalize ts[k] = td at *
      obtain ⟨p1, p2, p3, p4, l1, p5, hl1', k1, p6, hk1⟩ := n1
      obtain ⟨q1, q2, q3, q4, l2, q5, hl2', k2, q6, hk2⟩ := n2
      have L1 := hide hl1'
      have L2 := hide hl2'
      have K1 := hide hk1
      have K2 := hide hk2
      obtain ⟨la1, lc1, rfl, _, _, _⟩ := hl1'
      obtain ⟨la2, lc2, rfl, _, _, _⟩ := hl2'
      obtain ⟨ka1, kc1, rfl, _, _, _⟩ := hk1
      obtain ⟨ka2, kc2, rfl, _, _, _⟩ := hk2
      go_wp2_with fail
      go_region_with (go_at_call 118; refine (eqNode_any td _ _ _ _ _ ?_ ?_ ?_ ?_).mono ?_; exact L1.out.keep (below_drewN (Below.refl _ _) _); exact L2.out.keep (below_drewN (Below.refl _ _) _); exact K1.out.keep (below_drewN (Below.refl _ _) _); exact K2.out.keep (below_drewN (Below.refl _ _) _); rintro e w1 ⟨rfl, hb⟩)
      all_goals
        go_wp2_with fail
        go_roundw
        case rel => exact ⟨k + 1, by omega, by go_num, hbel.drew.trans (hb.mono hbel.size)⟩
        case measure => simp [intOf]; omega
    · go_wp2_with fail
      go_ret
      exact ⟨rfl, hbel⟩

set_option maxHeartbeats 1000000 in
theorem eqTerm_any (v1 v2 : Value) (ts : List Td) (w : World) (h1 : TNodesAt w v1 ts) (h2 : TNodesAt w v2 ts) :
    Calls Tryz.prog 44 #[.agg #[v1], .agg #[v2]] w fun e w' => e = .returned (.bool true) ∧ Below w.heap.size w w' := by
  have H1 : Hid (∀ o1 o2, TNodesAt ((w.alloc o1).alloc o2) v1 ts) := fun o1 o2 => h1.keep (((Below.refl w.heap.size w).alloc (Nat.le_refl _) o1).alloc (by simp) o2)
  have H2 : Hid (∀ o1 o2, TNodesAt ((w.alloc o1).alloc o2) v2 ts) := fun o1 o2 => h2.keep (((Below.refl w.heap.size w).alloc (Nat.le_refl _) o1).alloc (by simp) o2)
  obtain ⟨a1, cap1, rfl, _, _, _⟩ := h1
  obtain ⟨a2, cap2, rfl, _, _, _⟩ := h2
  go_enter Tryz.func44, Tryz.ntmps44
  go_wp2_with (go_at_call 82; refine (eqNodeS_any _ _ ts _ (H1.out _ _) (H2.out _ _)).mono ?_; rintro e w1 ⟨rfl, hb⟩)
  go_ret
  exact ⟨rfl, (((Below.refl w.heap.size w).alloc (Nat.le_refl _) _).alloc (by simp) _).trans (hb.mono (by simp; omega))⟩
end Go.Proofs.YtpmpooekpeocdaaGreat

/- What eqDecl, eqCtorS and eqCtor answer of copies of one declaration. -/
namespace Go.Proofs.YtpmpooekpeocdaaGreat
open Go.ChangeShapes Go.WideShapes Go.ChangeAt Go.RowKit

set_option maxHeartbeats 1000000 in
theorem eqCtor_any (c : Ct) (t1 t2 : Value) (w : World) (h1 : TNodesAt w t1 c.t) (h2 : TNodesAt w t2 c.t) :
    Calls Tryz.prog 83 #[.agg #[.string c.s, t1], .agg #[.string c.s, t2]] w fun e w' => e = .returned (.bool true) ∧ Below w.heap.size w w' := by
  have b2 : ∀ o1 o2, Below w.heap.size w ((w.alloc o1).alloc o2) := fun o1 o2 => (((Below.refl w.heap.size w).alloc (Nat.le_refl _) o1).alloc (by simp) o2)
  have H1 : Hid (∀ o1 o2, TNodesAt ((w.alloc o1).alloc o2) t1 c.t) := fun o1 o2 => h1.keep (b2 o1 o2)
  have H2 : Hid (∀ o1 o2, TNodesAt ((w.alloc o1).alloc o2) t2 c.t) := fun o1 o2 => h2.keep (b2 o1 o2)
  have HB2 := hide b2
  obtain ⟨a1, cap1, rfl⟩ := h1.form
  obtain ⟨a2, cap2, rfl⟩ := h2.form
  clear b2 h1 h2
  go_enter Tryz.func83, Tryz.ntmps83
  go_wp2_with fail
  refine (eqTerm_any _ _ c.t _ (H1.out _ _) (H2.out _ _)).mono ?_
  rintro e w1 ⟨rfl, hb⟩
  have HB := hide ((HB2.out _ _).trans (hb.mono (by simp; omega)))
  clear hb
  go_wp2_with fail
  go_ret
  exact ⟨rfl, HB.out⟩
set_option maxHeartbeats 2000000 in
theorem eqCtorS_any (v1 v2 : Value) (cs : List Ct) (w : World) (h1 : CtorsAt w v1 cs) (h2 : CtorsAt w v2 cs) :
    Calls Tryz.prog 45 #[v1, v2] w fun e w' => e = .returned (.bool true) ∧ Below w.heap.size w w' := by
  obtain ⟨a1, cap1, rfl, hl1, hm1, hc1⟩ := h1
  obtain ⟨a2, cap2, rfl, hl2, hm2, hc2⟩ := h2
  unfold maxLen at hm1 hm2
  have H1 := hide hc1
  have H2 := hide hc2
  clear hc1 hc2
  go_enter Tryz.func45, Tryz.ntmps45
  go_wp2_with fail
  go_loopw [5] (fun i wr => ∃ (k : Nat), k ≤ cs.length ∧ i = .int .i64 k ∧ Below w.heap.size w wr) (fun i _ => cs.length - (intOf i).toNat)
  case atStart => exact ⟨0, by omega, rfl, Below.refl _ _⟩
  case round =>
    obtain ⟨k, hk, rfl, hbel⟩ := hrel
    by_cases hlt : k < cs.length
    · obtain ⟨b1, o1, rfl, c1⟩ := H1.out (by omega)
      obtain ⟨b2, o2, rfl, c2⟩ := H2.out (by omega)
      obtain ⟨p1, u1, p2, p3⟩ := c1 k hlt
      obtain ⟨q1, u2, q2, q3⟩ := c2 k hlt
      have hlt' : (k : Int) < cs.length := by omega
      clear c1 c2 H1 H2
      generalize cs[k] = c at *
      have p1 := keep_cell hbel p1
      have p2 := keep_cell hbel p2
      have q1 := keep_cell hbel q1
      have q2 := keep_cell hbel q2
      have P3 := hide (p3.keep hbel)
      have Q3 := hide (q3.keep hbel)
      obtain ⟨ua, uc, rfl⟩ := p3.form
      obtain ⟨va, vc, rfl⟩ := q3.form
      clear p3 q3
      go_wp2_with fail
      go_region_with (go_at_call 83; refine (eqCtor_any c _ _ _ ?_ ?_).mono ?_; exact P3.out.keep (below_drewN (Below.refl _ _) _); exact Q3.out.keep (below_drewN (Below.refl _ _) _); rintro e w1 ⟨rfl, hb⟩)
      all_goals
        go_wp2_with fail
        go_roundw
        case rel => exact ⟨k + 1, by omega, by go_num, hbel.drew.trans (hb.mono hbel.size)⟩
        case measure => simp [intOf]; omega
    · go_wp2_with fail
      go_ret
      exact ⟨rfl, hbel⟩
set_option maxRecDepth 20000 in
set_option maxHeartbeats 2000000 in
theorem eqDecl_any (d : Dc) (p1 t1 v1 c1 p2 t2 v2 c2 : Value) (w : World) (h1 : DeclAt w p1 t1 v1 c1 d) (h2 : DeclAt w p2 t2 v2 c2 d) :
    Calls Tryz.prog 14 #[declV d p1 t1 v1 c1, declV d p2 t2 v2 c2] w fun e w' => e = .returned (.bool true) ∧ Below w.heap.size w w' := by
  have H1 := hide h1
  have H2 := hide h2
  obtain ⟨pa1, pc1, e1⟩ : ∃ a c, p1 = .slice a d.ps.length c := by obtain ⟨a, c, h, _⟩ := h1.ps; exact ⟨a, c, h⟩
  obtain ⟨pa2, pc2, e2⟩ : ∃ a c, p2 = .slice a d.ps.length c := by obtain ⟨a, c, h, _⟩ := h2.ps; exact ⟨a, c, h⟩
  obtain ⟨ta1, tc1, e3⟩ := h1.t.form
  obtain ⟨ta2, tc2, e4⟩ := h2.t.form
  obtain ⟨va1, vc1, e5⟩ := h1.v.form
  obtain ⟨va2, vc2, e6⟩ := h2.v.form
  obtain ⟨ca1, cc1, e7⟩ := h1.cs.form
  obtain ⟨ca2, cc2, e8⟩ := h2.cs.form
  subst e1 e2 e3 e4 e5 e6 e7 e8
  clear h1 h2
  obtain ⟨W, hW⟩ : ∃ W, W = (w.alloc (.cells #[.int .i64 d.k, .string d.s, .slice pa1 d.ps.length pc1, .slice ta1 d.t.length tc1, .slice va1 d.v.length vc1, .int .i64 d.f, .slice ca1 d.cs.length cc1] 36)).alloc (.cells #[.int .i64 d.k, .string d.s, .slice pa2 d.ps.length pc2, .slice ta2 d.t.length tc2, .slice va2 d.v.length vc2, .int .i64 d.f, .slice ca2 d.cs.length cc2] 36) := ⟨_, rfl⟩
  have hbW : Below w.heap.size w W := by rw [hW]; exact bel_alloc (bel_alloc (Below.refl _ _) _) _
  have x0 : W.cell? ⟨w.heap.size, 0, none⟩ = some (.int .i64 d.k) := by rw [hW]; simp [go_sem]
  have x1 : W.cell? ⟨w.heap.size, 1, none⟩ = some (.string d.s) := by rw [hW]; simp [go_sem]
  have x2 : W.cell? ⟨w.heap.size, 2, none⟩ = some (.slice pa1 d.ps.length pc1) := by rw [hW]; simp [go_sem]
  have x3 : W.cell? ⟨w.heap.size, 3, none⟩ = some (.slice ta1 d.t.length tc1) := by rw [hW]; simp [go_sem]
  have x4 : W.cell? ⟨w.heap.size, 4, none⟩ = some (.slice va1 d.v.length vc1) := by rw [hW]; simp [go_sem]
  have x5 : W.cell? ⟨w.heap.size, 5, none⟩ = some (.int .i64 d.f) := by rw [hW]; simp [go_sem]
  have x6 : W.cell? ⟨w.heap.size, 6, none⟩ = some (.slice ca1 d.cs.length cc1) := by rw [hW]; simp [go_sem]
  have y0 : W.cell? ⟨w.heap.size + 1, 0, none⟩ = some (.int .i64 d.k) := by rw [hW]; simp [go_sem]
  have y1 : W.cell? ⟨w.heap.size + 1, 1, none⟩ = some (.string d.s) := by rw [hW]; simp [go_sem]
  have y2 : W.cell? ⟨w.heap.size + 1, 2, none⟩ = some (.slice pa2 d.ps.length pc2) := by rw [hW]; simp [go_sem]
  have y3 : W.cell? ⟨w.heap.size + 1, 3, none⟩ = some (.slice ta2 d.t.length tc2) := by rw [hW]; simp [go_sem]
  have y4 : W.cell? ⟨w.heap.size + 1, 4, none⟩ = some (.slice va2 d.v.length vc2) := by rw [hW]; simp [go_sem]
  have y5 : W.cell? ⟨w.heap.size + 1, 5, none⟩ = some (.int .i64 d.f) := by rw [hW]; simp [go_sem]
  have y6 : W.cell? ⟨w.heap.size + 1, 6, none⟩ = some (.slice ca2 d.cs.length cc2) := by rw [hW]; simp [go_sem]
  have l0 := lt_cell x0
  have l1 := lt_cell y0
  have HBW := hide hbW
  have HC1 := hide (eqStringS_any _ _ d.ps W (H1.out.ps.keep hbW) (H2.out.ps.keep hbW))
  clear hbW
  unfold declV
  go_enter Tryz.func14, Tryz.ntmps14
  go_upto_region 1 with fail
  rw [← hW]
  clear hW
  go_wp2_with fail
  refine HC1.out.mono ?_
  rintro e w1 ⟨rfl, n1, hn1⟩
  have hb1 : Below W.heap.size W w1 := by rw [hn1]; exact below_drewN (Below.refl _ _) _
  have x3 := keep_cell hb1 x3
  have x4 := keep_cell hb1 x4
  have x5 := keep_cell hb1 x5
  have x6 := keep_cell hb1 x6
  have y3 := keep_cell hb1 y3
  have y4 := keep_cell hb1 y4
  have y5 := keep_cell hb1 y5
  have y6 := keep_cell hb1 y6
  have l0 := lt_cell x3
  have l1 := lt_cell y3
  have HB1 : Hid (Below w.heap.size w w1) := HBW.out.trans (hb1.mono HBW.out.size)
  have HC2 := hide (eqTerm_any _ _ d.t w1 (H1.out.t.keep HB1.out) (H2.out.t.keep HB1.out))
  clear hn1 hb1 HC1 x0 x1 x2 y0 y1 y2
  go_wp2_with fail
  refine HC2.out.mono ?_
  rintro e w2 ⟨rfl, hb2⟩
  have x4 := keep_cell hb2 x4
  have x5 := keep_cell hb2 x5
  have x6 := keep_cell hb2 x6
  have y4 := keep_cell hb2 y4
  have y5 := keep_cell hb2 y5
  have y6 := keep_cell hb2 y6
  have l0 := lt_cell x4
  have l1 := lt_cell y4
  have HB2 : Hid (Below w.heap.size w w2) := HB1.out.trans (hb2.mono HB1.out.size)
  have HC3 := hide (eqTerm_any _ _ d.v w2 (H1.out.v.keep HB2.out) (H2.out.v.keep HB2.out))
  clear hb2 HC2 x3 y3
  go_wp2_with fail
  refine HC3.out.mono ?_
  rintro e w3 ⟨rfl, hb3⟩
  have x5 := keep_cell hb3 x5
  have x6 := keep_cell hb3 x6
  have y5 := keep_cell hb3 y5
  have y6 := keep_cell hb3 y6
  have l0 := lt_cell x5
  have l1 := lt_cell y5
  have HB3 : Hid (Below w.heap.size w w3) := HB2.out.trans (hb3.mono HB2.out.size)
  have HC4 := hide (eqCtorS_any _ _ d.cs w3 (H1.out.cs.keep HB3.out) (H2.out.cs.keep HB3.out))
  clear hb3 HC3 x4 y4
  go_wp2_with fail
  refine HC4.out.mono ?_
  rintro e w4 ⟨rfl, hb4⟩
  have HB4 : Hid (Below w.heap.size w w4) := HB3.out.trans (hb4.mono HB3.out.size)
  clear hb4 HC4
  go_wp2_with fail
  go_ret
  exact ⟨rfl, HB4.out⟩
end Go.Proofs.YtpmpooekpeocdaaGreat
