/- What the counting of a level (szLevel and what it calls) answers. -/
import Derived.Test.YtpmpooekpeocdaaGreatPlain
namespace Go.Proofs.YtpmpooekpeocdaaGreat
open Go.ChangeShapes Go.WideShapes Go.ChangeAt Go.RowKit

/-- What is left when n is taken away: -1 where it is less than nothing. -/
def leftOf (left : Int) (n : Nat) : Int := if left < n then -1 else left - n
theorem ret_int {k : IntKind} {a b : Int} (h : a = b) : Ending.returned (.int k a) = .returned (.int k b) := by rw [h]

set_option maxHeartbeats 400000 in
theorem szIntS_any (v : Value) (ks : List Int) (left : Int) (w : World) (hk : IntsAt w v ks) (h0 : 0 ≤ left) (h1 : left ≤ 1048576) :
    Calls Tryz.prog 137 #[v, .int .i64 left] w fun e w' => e = .returned (.int .i64 (leftOf left ks.length)) ∧ w' = w := by
  obtain ⟨a, cap, rfl, hlc, hcm, _⟩ := hk
  unfold maxLen at hcm
  by_cases h : left < ks.length
  · go_enter Tryz.func137, Tryz.ntmps137
    go_wp2
    go_ret
    exact ⟨ret_int (by rw [leftOf, if_pos h]), rfl⟩
  · go_enter Tryz.func137, Tryz.ntmps137
    go_wp2
    go_ret
    exact ⟨ret_int (by rw [leftOf, if_neg (by omega)]), rfl⟩

set_option maxHeartbeats 400000 in
theorem szLNode_any (nd : Nd) (kv : Value) (left : Int) (w : World) (hs : nd.s.size ≤ maxLen) (hk : IntsAt w kv nd.kids) (h0 : 0 ≤ left) (h1 : left ≤ 1048576) :
    Calls Tryz.prog 245 #[.agg #[.int .i64 nd.k, .string nd.s, kv], .int .i64 left] w fun e w' => e = .returned (.int .i64 (leftOf left (ndSize nd))) ∧ Below w.heap.size w w' := by
  unfold maxLen at hs
  by_cases h : left < nd.s.size
  · go_enter Tryz.func245, Tryz.ntmps245
    go_wp2_with fail
    go_ret
    exact ⟨ret_int (by rw [leftOf, if_pos (by unfold ndSize; omega)]), (Below.refl _ _).alloc (Nat.le_refl _) _⟩
  · have hbox := fun o => hk.keep ((Below.refl w.heap.size w).alloc (Nat.le_refl _) o)
    have HK : Hid (∀ o, IntsAt (w.alloc o) kv nd.kids) := hbox
    clear hbox
    obtain ⟨a, cap, rfl, hlc, hcm, _⟩ := hk
    by_cases h2 : left - nd.s.size < nd.kids.length
    · have HL : Hid (leftOf (left - nd.s.size) nd.kids.length = -1) := by show leftOf _ _ = _; rw [leftOf, if_pos h2]
      go_enter Tryz.func245, Tryz.ntmps245
      go_wp2_with (go_at_call 137; refine (szIntS_any _ nd.kids _ _ (HK.out _) (by omega) (by omega)).mono ?_; rintro e w' ⟨rfl, rfl⟩; rw [HL.out])
      go_ret
      exact ⟨ret_int (by rw [leftOf, if_pos (by unfold ndSize; omega)]), (Below.refl _ _).alloc (Nat.le_refl _) _⟩
    · have HL : Hid (leftOf (left - nd.s.size) nd.kids.length = left - nd.s.size - nd.kids.length) := by show leftOf _ _ = _; rw [leftOf, if_neg h2]
      have hpos : (nd.kids.length : Int) ≤ left - nd.s.size := by omega
      clear h2
      go_enter Tryz.func245, Tryz.ntmps245
      go_wp2_with (go_at_call 137; refine (szIntS_any _ nd.kids _ _ (HK.out _) (by omega) (by omega)).mono ?_; rintro e w' ⟨rfl, rfl⟩; rw [HL.out])
      go_ret
      exact ⟨ret_int (by rw [leftOf, if_neg (by unfold ndSize; omega)]; unfold ndSize; omega), (Below.refl _ _).alloc (Nat.le_refl _) _⟩

set_option maxHeartbeats 1000000 in
theorem szLNodeS_any (v : Value) (ns : List Nd) (left : Int) (w : World) (hns : NodesAt w v ns) (hsz : ∀ nd ∈ ns, nd.s.size ≤ maxLen) (h0 : 0 ≤ left) (h1 : left ≤ 1048576) :
    Calls Tryz.prog 207 #[v, .int .i64 left] w fun e w' => e = .returned (.int .i64 (leftOf left (ns.length + nsSum ns))) ∧ Below w.heap.size w w' := by
  obtain ⟨a, cap, rfl, hlc, hcm, hnode⟩ := hns
  unfold maxLen at hcm
  by_cases h : left < ns.length
  · go_enter Tryz.func207, Tryz.ntmps207
    go_wp2_with fail
    go_ret
    exact ⟨ret_int (by rw [leftOf, if_pos (by omega)]), Below.refl _ _⟩
  have HN : Hid (0 < ns.length → ∃ b off, a = some ⟨b, off, none⟩ ∧ ∀ i (h : i < ns.length), NodeAt w b (off + i * 3) ns[i]) := hnode
  have HZ : Hid (∀ nd ∈ ns, nd.s.size ≤ maxLen) := hsz
  have d0 : decide (left - (ns.length : Int) < 0) = false := by simp; omega
  clear hnode hsz
  go_enter Tryz.func207, Tryz.ntmps207
  go_wp2_with fail
  go_loopw [1, 5] (fun l i wr => ∃ k : Nat, k ≤ ns.length ∧ i = .int .i64 k ∧ (nsSum (ns.take k) : Int) ≤ left - ns.length ∧ l = .int .i64 (left - ns.length - nsSum (ns.take k)) ∧ Below w.heap.size w wr) (fun _ i _ => ns.length - (intOf i).toNat)
  case atStart => exact ⟨0, by omega, rfl, by simp [nsSum]; omega, by simp [nsSum], Below.refl _ _⟩
  case round =>
    obtain ⟨k, hk, rfl, hsum, rfl, hbel⟩ := hrel
    by_cases hlt : k < ns.length
    · obtain ⟨b, off, ha, hc⟩ := HN.out (by omega)
      subst ha
      have hnd := hc k hlt
      have hsnoc := nsSum_snoc ns k hlt
      have hsl := HZ.out ns[k] (by simp)
      have hle := nsSum_le ns (k + 1)
      generalize ns[k] = nd at *
      obtain ⟨c1, c2, kv, c3, hkv⟩ := hnd
      have c1' := hbel.cell (p := ⟨b, off + k * 3, none⟩) (lt_cell c1)
      have c2' := hbel.cell (p := ⟨b, off + k * 3 + 1, none⟩) (lt_cell c2)
      have c3' := hbel.cell (p := ⟨b, off + k * 3 + 2, none⟩) (lt_cell c3)
      rw [c1] at c1'
      rw [c2] at c2'
      rw [c3] at c3'
      clear hc c1 c2 c3
      have HS : Hid (nsSum (ns.take (k + 1)) = nsSum (ns.take k) + ndSize nd) := hsnoc
      clear hsnoc
      have hkv' := hkv.keep (w' := wr) hbel
      obtain ⟨L, hL⟩ : ∃ L : Int, L = left - ns.length - nsSum (ns.take k) := ⟨_, rfl⟩
      rw [← hL]
      have hL0 : 0 ≤ L := by omega
      have hL1 : L ≤ 1048576 := by omega
      have HLL : Hid (L = left - ns.length - nsSum (ns.take k)) := hL
      clear hL
      by_cases h3 : L < ndSize nd
      · have HL : Hid (leftOf L (ndSize nd) = -1) := by show leftOf _ _ = _; rw [leftOf, if_pos h3]
        go_wp2_with (go_at_call 245; refine (szLNode_any nd kv _ _ hsl hkv' hL0 hL1).mono ?_; rintro e w' ⟨rfl, hb2⟩; rw [HL.out])
        go_ret
        have := HLL.out; have := HS.out
        exact ⟨ret_int (by rw [leftOf, if_pos (by omega)]), hbel.trans (hb2.mono hbel.size)⟩
      · have HL : Hid (leftOf L (ndSize nd) = L - ndSize nd) := by show leftOf _ _ = _; rw [leftOf, if_neg h3]
        have hge : (ndSize nd : Int) ≤ L := by omega
        go_wp2_with (go_at_call 245; refine (szLNode_any nd kv _ _ hsl hkv' hL0 hL1).mono ?_; rintro e w' ⟨rfl, hb2⟩; rw [HL.out])
        go_roundw
        case rel =>
          have := HLL.out; have := HS.out
          exact ⟨k + 1, by omega, by go_num, by omega, by rw [show L - ndSize nd = left - ns.length - nsSum (ns.take (k + 1)) from by omega], hbel.trans (hb2.mono hbel.size)⟩
        case measure => simp [intOf]; omega
    · have hke : ns.take k = ns := List.take_of_length_le (by omega)
      rw [hke] at hsum ⊢
      clear hke
      go_wp2_with fail
      go_ret
      exact ⟨ret_int (by rw [leftOf, if_neg (by omega)]; omega), hbel⟩

set_option maxHeartbeats 1000000 in
theorem szLevel_any (v : Value) (ns : List Nd) (left : Int) (w : World) (hns : NodesAt w v ns) (hsz : ∀ nd ∈ ns, nd.s.size ≤ maxLen) (h0 : 0 ≤ left) (h1 : left ≤ 1048576) :
    Calls Tryz.prog 174 #[.agg #[v], .int .i64 left] w fun e w' => e = .returned (.int .i64 (leftOf left (ns.length + nsSum ns))) ∧ Below w.heap.size w w' := by
  have HN : Hid (∀ o, NodesAt (w.alloc o) v ns) := fun o => hns.keep ((Below.refl w.heap.size w).alloc (Nat.le_refl _) o)
  have HZ : Hid (∀ nd ∈ ns, nd.s.size ≤ maxLen) := hsz
  obtain ⟨a, cap, rfl, hlc, hcm, _⟩ := hns
  clear hsz
  by_cases h : left < (ns.length + nsSum ns : Nat)
  · have HL : Hid (leftOf left (ns.length + nsSum ns) = -1) := by show leftOf _ _ = _; rw [leftOf, if_pos h]
    clear h
    rw [HL.out]
    go_enter Tryz.func174, Tryz.ntmps174
    go_wp2_with (go_at_call 207; refine (szLNodeS_any _ ns _ _ (HN.out _) HZ.out h0 h1).mono ?_; rintro e w' ⟨rfl, hb2⟩; rw [HL.out])
    go_ret
    exact ⟨rfl, ((Below.refl _ _).alloc (Nat.le_refl _) _).trans (hb2.mono (by simp))⟩
  · have HL : Hid (leftOf left (ns.length + nsSum ns) = left - (ns.length + nsSum ns : Nat)) := by show leftOf _ _ = _; rw [leftOf, if_neg h]
    obtain ⟨M, hM⟩ : ∃ M : Int, M = left - (ns.length + nsSum ns : Nat) := ⟨_, rfl⟩
    have hM0 : 0 ≤ M := by omega
    have HM : Hid (leftOf left (ns.length + nsSum ns) = M) := by show leftOf _ _ = _; rw [HL.out, hM]
    clear h HL hM
    rw [HM.out]
    go_enter Tryz.func174, Tryz.ntmps174
    go_wp2_with (go_at_call 207; refine (szLNodeS_any _ ns _ _ (HN.out _) HZ.out h0 h1).mono ?_; rintro e w' ⟨rfl, hb2⟩; rw [HM.out])
    go_ret
    exact ⟨rfl, ((Below.refl _ _).alloc (Nat.le_refl _) _).trans (hb2.mono (by simp))⟩
end Go.Proofs.YtpmpooekpeocdaaGreat

/- What the copying of a level (toLevel and what it calls) answers: a new level with the same nodes; nothing that was there is written. -/
namespace Go.Proofs.YtpmpooekpeocdaaGreat
open Go.ChangeShapes Go.WideShapes Go.ChangeAt Go.RowKit

theorem Tryz.info3 : (Tryz.prog.info? 3).map (fun i => (i.zero, i.size, i.bytes)) = some (some (.int .i64 0), 1, 8) := by kernel_rfl
theorem Tryz.info243 : (Tryz.prog.info? 243).map (fun i => (i.zero, i.size, i.bytes)) = some (some (.agg #[.int .i64 0, .string ⟨#[]⟩, .slice none 0 0]), 3, 48) := by kernel_rfl

theorem ownsRow_ints {w : World} {base g n cap : Nat} {e : TypeId} {xs : List Value} {ks : List Int} (h : w.ownsRow base e 1 (.slice (some ⟨g, 0, none⟩) n cap) n xs) (hn : n = ks.length) (hx : ∀ j (h : j < ks.length), xs[j]? = some (.int .i64 ks[j])) :
    IntsAt w (.slice (some ⟨g, 0, none⟩) n cap) ks := by
  subst hn
  rcases h.2 with ⟨h', _⟩ | ⟨g', cap', cur, h', _, hg, hnc, hcm, hcs, htake⟩
  · simp at h'
  · simp only [Value.slice.injEq, Option.some.injEq, Addr.mk.injEq, and_true, true_and] at h'
    obtain ⟨rfl, rfl⟩ := h'
    exact ⟨_, _, rfl, hnc, hcm, fun _ => ⟨g, 0, rfl, fun j hj => by rw [Nat.zero_add, h.cellAt j (by omega)]; exact hx j hj⟩⟩

set_option maxHeartbeats 1000000 in
theorem toIntS_any (v : Value) (ks : List Int) (w : World) (hk : IntsAt w v ks) (hl : ks.length ≤ 1048576) :
    Calls Tryz.prog 146 #[v] w fun e w' => ∃ g, e = .returned (.slice (some ⟨g, 0, none⟩) ks.length ks.length) ∧ IntsAt w' (.slice (some ⟨g, 0, none⟩) ks.length ks.length) ks ∧ w.heap.size ≤ g ∧ Below w.heap.size w w' := by
  obtain ⟨i0, hi, hz0, hz1, hz2⟩ := info_parts Tryz.info3
  obtain ⟨a, cap, rfl, hlc, hcm, hc⟩ := hk
  have HC : Hid (0 < ks.length → ∃ b off, a = some ⟨b, off, none⟩ ∧ ∀ j (h : j < ks.length), w.cell? ⟨b, off + j, none⟩ = some (.int .i64 ks[j])) := hc
  clear hc
  go_enter Tryz.func146, Tryz.ntmps146
  go_wp2_with (at_make; refine wpList_make_full _ rfl _ _ 163 rfl w.heap.size 3 i0 (.int .i64 0) 1 Tryz.underlying163 hi hz0 hz1 .i64 .i64 _ _ ks.length rfl rfl rfl rfl (by rw [hz2]; omega) (by unfold maxLen; omega) (Nat.le_refl _) ?_; intro w1 hown hgrow)
  go_loopw [4] (fun i wr => ∃ (k : Nat) (xs : List Value), k ≤ ks.length ∧ i = .int .i64 k ∧ wr.ownsRow w.heap.size 3 1 (.slice (some ⟨w.heap.size, 0, none⟩) ks.length ks.length) ks.length xs ∧ Hid (∀ j (h : j < ks.length), j < k → xs[j]? = some (.int .i64 ks[j])) ∧ Below w.heap.size w wr) (fun i _ => ks.length - (intOf i).toNat)
  case atStart => exact ⟨0, _, by omega, rfl, hown, fun j _ h => by omega, (Below.refl _ _).grown hgrow (Nat.le_refl _) (fun k hk => by cases hk)⟩
  case round =>
    obtain ⟨k, xs, hk, rfl, hownr, HX, hbel⟩ := hrel
    by_cases hlt : k < ks.length
    · obtain ⟨b, off, ha, hc⟩ := HC.out (by omega)
      subst ha
      have c1 := hc k hlt
      have c1' := hbel.cell (p := ⟨b, off + k, none⟩) (lt_cell c1)
      rw [c1] at c1'
      have hst := hownr.stored k (.int .i64 ks[k])
      have hfz := hownr.frozenAt k
      have hce := hownr.cellAt k (by omega)
      have hxl := hownr.1
      obtain ⟨u, hu⟩ : ∃ u, xs[k]? = some u := ⟨xs[k]'(by omega), by simp⟩
      rw [hu] at hce
      have HX2 : Hid (∀ j (h : j < ks.length), j < k + 1 → (xs.set k (.int .i64 ks[k]))[j]? = some (.int .i64 ks[j])) := by
        intro j hj hjk
        rw [List.getElem?_set]
        by_cases e : k = j
        · subst e; rw [if_pos rfl, if_pos (by omega)]
        · rw [if_neg e]; exact HX.out j hj (by omega)
      clear hc c1 hu hown hgrow
      generalize ks[k] = q at *
      go_wp2_with fail
      go_roundw
      case rel => exact ⟨k + 1, _, by omega, by go_num, hst.1, HX2, hbel.setCell (Nat.le_refl _) _⟩
      case measure => simp [intOf]; omega
    · have hints := ownsRow_ints hownr rfl (fun j hj => HX.out j hj (by omega))
      clear hown hgrow hownr
      go_wp2_with fail
      go_ret
      exact ⟨_, rfl, hints, Nat.le_refl _, hbel⟩

theorem cell_set {w : World} {p : Addr} {u : Value} {b o : Nat} (h : b ≠ p.block) : (w.setCell p u).cell? ⟨b, o, none⟩ = w.cell? ⟨b, o, none⟩ :=
  World.cell?_of_block (a := ⟨b, o, none⟩) (Below.heap_setCell w p u b h)
theorem IntsAt.set {w : World} {g n cap : Nat} {ks : List Int} (h : IntsAt w (.slice (some ⟨g, 0, none⟩) n cap) ks) {p : Addr} (hp : g ≠ p.block) (u : Value) : IntsAt (w.setCell p u) (.slice (some ⟨g, 0, none⟩) n cap) ks := by
  obtain ⟨a, c, hv, h1, h2, h3⟩ := h
  refine ⟨a, c, hv, h1, h2, fun h0 => ?_⟩
  obtain ⟨b, off, ha, hc⟩ := h3 h0
  subst ha
  simp only [Value.slice.injEq, Option.some.injEq, Addr.mk.injEq] at hv
  obtain ⟨⟨rfl, _, _⟩, _⟩ := hv
  exact ⟨g, off, rfl, fun j hj => by rw [cell_set hp]; exact hc j hj⟩
theorem grown_of {w w' : World} (hb : Below w.heap.size w w') : w.grownBy w' none := ⟨hb.os, hb.tape, hb.output, hb.size, fun k hk _ => hb.block k hk⟩
theorem row_keep {w w' : World} (hb : Below w.heap.size w w') {base : Nat} {e : TypeId} {size : Nat} {v : Value} {n : Nat} {xs : List Value} (h : w.ownsRow base e size v n xs) : w'.ownsRow base e size v n xs :=
  h.kept (grown_of hb) (by cases hv : v.ownBlock <;> simp)
theorem bcell {W w1 : World} (hb : Below W.heap.size W w1) : (∀ b o, b < W.heap.size → w1.cell? ⟨b, o, none⟩ = W.cell? ⟨b, o, none⟩) ∧ (∀ b o, b < W.heap.size → w1.frozen? ⟨b, o, none⟩ = W.frozen? ⟨b, o, none⟩) :=
  ⟨fun b o h => hb.cell (p := ⟨b, o, none⟩) h, fun b o h => hb.frozen (p := ⟨b, o, none⟩) h⟩

set_option maxHeartbeats 1000000 in
theorem toLNode_any (nd : Nd) (kv : Value) (w : World) (hk : IntsAt w kv nd.kids) (hl : nd.kids.length ≤ 1048576) :
    Calls Tryz.prog 248 #[.agg #[.int .i64 nd.k, .string nd.s, kv]] w fun e w' => ∃ g, e = .returned (.agg #[.int .i64 nd.k, .string nd.s, .slice (some ⟨g, 0, none⟩) nd.kids.length nd.kids.length]) ∧ IntsAt w' (.slice (some ⟨g, 0, none⟩) nd.kids.length nd.kids.length) nd.kids ∧ w.heap.size ≤ g ∧ Below w.heap.size w w' := by
  have HK : Hid (∀ o1 o2 o3, IntsAt (((w.alloc o1).alloc o2).alloc o3) kv nd.kids) := fun o1 o2 o3 => hk.keep ((((Below.refl w.heap.size w).alloc (Nat.le_refl _) o1).alloc (by simp) o2).alloc (by simp; omega) o3)
  obtain ⟨a, cap, rfl, hlc, hcm, _⟩ := hk
  go_enter Tryz.func248, Tryz.ntmps248
  go_wp2_with fail
  refine (toIntS_any _ nd.kids _ (HK.out _ _ _) hl).mono ?_
  rintro e w1 ⟨g, rfl, hints, hg, hb⟩
  obtain ⟨hc, hf⟩ := bcell hb
  have hz : w.heap.size + 1 + 1 < w1.heap.size := by have := hb.size; simp at this; omega
  have hbel : Below w.heap.size w w1 := ((((Below.refl w.heap.size w).alloc (Nat.le_refl _) _).alloc (by simp) _).alloc (by simp; omega) _).trans (hb.mono (by simp; omega))
  simp only [World.size_alloc] at hc hf hg
  clear hb
  go_wp2_with fail
  refine bodyPost_ret (v := .agg #[.int .i64 nd.k, .string nd.s, .slice (some ⟨g, 0, none⟩) nd.kids.length nd.kids.length]) (by simp [results, Tryz.results248, go_sem, hc]) rfl ⟨g, rfl, ?_, by omega, ?_⟩
  · exact (((hints.set (p := ⟨_, _, _⟩) (by dsimp only; omega) _).set (p := ⟨_, _, _⟩) (by dsimp only; omega) _).set (p := ⟨_, _, _⟩) (by dsimp only; omega) _).set (p := ⟨_, _, _⟩) (by dsimp only; omega) _
  · exact (((hbel.setCell (p := ⟨_, _, _⟩) (by show _ ≤ w.heap.size + 1 + 1; omega) _).setCell (p := ⟨_, _, _⟩) (by show _ ≤ w.heap.size + 1; omega) _).setCell (p := ⟨_, _, _⟩) (by show _ ≤ w.heap.size + 1; omega) _).setCell (p := ⟨_, _, _⟩) (by show _ ≤ w.heap.size + 1; omega) _

/-- The first k nodes stand in the row R, their kids in rows of their own. -/
def NodesIn (w : World) (R : Nat) (xs : List Value) (ns : List Nd) (k : Nat) : Prop :=
  ∀ i (h : i < ns.length), i < k → xs[i * 3]? = some (.int .i64 ns[i].k) ∧ xs[i * 3 + 1]? = some (.string ns[i].s) ∧ ∃ g, R < g ∧ xs[i * 3 + 2]? = some (.slice (some ⟨g, 0, none⟩) ns[i].kids.length ns[i].kids.length) ∧ IntsAt w (.slice (some ⟨g, 0, none⟩) ns[i].kids.length ns[i].kids.length) ns[i].kids
theorem NodesIn.keep {w w' : World} (hb : Below w.heap.size w w') {R : Nat} {xs : List Value} {ns : List Nd} {k : Nat} (h : NodesIn w R xs ns k) : NodesIn w' R xs ns k := fun i hi hk => by
  obtain ⟨h1, h2, g, h3, h4, h5⟩ := h i hi hk
  exact ⟨h1, h2, g, h3, h4, h5.keep hb⟩
theorem NodesIn.put {w : World} {R : Nat} {xs : List Value} {ns : List Nd} {k g : Nat} (hx : xs.length = ns.length * 3) (h : NodesIn w R xs ns k) (hk : k < ns.length) (hg : R < g) (hints : IntsAt w (.slice (some ⟨g, 0, none⟩) ns[k].kids.length ns[k].kids.length) ns[k].kids) (u1 u2 u3 : Value) :
    NodesIn (((w.setCell ⟨R, k * 3, none⟩ u1).setCell ⟨R, k * 3 + 1, none⟩ u2).setCell ⟨R, k * 3 + 2, none⟩ u3) R (((xs.set (k * 3) (.int .i64 ns[k].k)).set (k * 3 + 1) (.string ns[k].s)).set (k * 3 + 2) (.slice (some ⟨g, 0, none⟩) ns[k].kids.length ns[k].kids.length)) ns (k + 1) := by
  intro i hi hik
  by_cases e : i = k
  · subst e
    refine ⟨?_, ?_, g, hg, ?_, ((hints.set (p := ⟨_, _, _⟩) (by show g ≠ R; omega) _).set (p := ⟨_, _, _⟩) (by show g ≠ R; omega) _).set (p := ⟨_, _, _⟩) (by show g ≠ R; omega) _⟩
    · rw [List.getElem?_set_ne (by omega), List.getElem?_set_ne (by omega), List.getElem?_set_self (by omega)]
    · rw [List.getElem?_set_ne (by omega), List.getElem?_set_self (by simp; omega)]
    · rw [List.getElem?_set_self (by simp; omega)]
  · obtain ⟨h1, h2, g', h3, h4, h5⟩ := h i hi (by omega)
    refine ⟨?_, ?_, g', h3, ?_, ((h5.set (p := ⟨_, _, _⟩) (by show g' ≠ R; omega) _).set (p := ⟨_, _, _⟩) (by show g' ≠ R; omega) _).set (p := ⟨_, _, _⟩) (by show g' ≠ R; omega) _⟩
    · rw [List.getElem?_set_ne (by omega), List.getElem?_set_ne (by omega), List.getElem?_set_ne (by omega)]; exact h1
    · rw [List.getElem?_set_ne (by omega), List.getElem?_set_ne (by omega), List.getElem?_set_ne (by omega)]; exact h2
    · rw [List.getElem?_set_ne (by omega), List.getElem?_set_ne (by omega), List.getElem?_set_ne (by omega)]; exact h4
end Go.Proofs.YtpmpooekpeocdaaGreat
