/- How a level lies in memory: a row of nodes, each a number, a text and a row of numbers; and that what was there stays so where nothing below is written. -/
import Derived.Test.YtlhhdhmhncjilaaGreatShort
import Derived.WalkLawsBesides
import Derived.WalkSpells
import Derived.Deep.Draws
namespace Go.Proofs.YtlhhdhmhncjilaaGreat
open Go.ChangeShapes Go.WideShapes Go.ChangeAt Go.RowKit

/-- A node: its kind, its text, its kids. -/
structure Nd where
  k : Int
  s : ByteArray
  kids : List Int

def IntsAt (w : World) (v : Value) (ks : List Int) : Prop :=
  ∃ a cap, v = .slice a ks.length cap ∧ ks.length ≤ cap ∧ cap ≤ maxLen ∧
    (0 < ks.length → ∃ b off, a = some ⟨b, off, none⟩ ∧ ∀ j (h : j < ks.length), w.cell? ⟨b, off + j, none⟩ = some (.int .i64 ks[j]))
def NodeAt (w : World) (b o : Nat) (nd : Nd) : Prop :=
  w.cell? ⟨b, o, none⟩ = some (.int .i64 nd.k) ∧ w.cell? ⟨b, o + 1, none⟩ = some (.string nd.s) ∧ ∃ kv, w.cell? ⟨b, o + 2, none⟩ = some kv ∧ IntsAt w kv nd.kids
def NodesAt (w : World) (v : Value) (ns : List Nd) : Prop :=
  ∃ a cap, v = .slice a ns.length cap ∧ ns.length ≤ cap ∧ cap ≤ maxLen ∧
    (0 < ns.length → ∃ b off, a = some ⟨b, off, none⟩ ∧ ∀ i (h : i < ns.length), NodeAt w b (off + i * 3) ns[i])

theorem lt_cell {w : World} {b o : Nat} {v : Value} (h : w.cell? ⟨b, o, none⟩ = some v) : b < w.heap.size := World.block_lt_of_cell? w ⟨b, o, none⟩ h
theorem keep_cell {w w' : World} (hb : Below w.heap.size w w') {b o : Nat} {v : Value} (h : w.cell? ⟨b, o, none⟩ = some v) : w'.cell? ⟨b, o, none⟩ = some v := by
  rw [hb.cell (p := ⟨b, o, none⟩) (lt_cell h)]; exact h
theorem IntsAt.keep {w w' : World} (hb : Below w.heap.size w w') {v : Value} {ks : List Int} (h : IntsAt w v ks) : IntsAt w' v ks := by
  obtain ⟨a, cap, hv, h1, h2, h3⟩ := h
  refine ⟨a, cap, hv, h1, h2, fun h0 => ?_⟩
  obtain ⟨b, off, ha, hc⟩ := h3 h0
  exact ⟨b, off, ha, fun j h => keep_cell hb (hc j h)⟩
theorem NodeAt.keep {w w' : World} (hb : Below w.heap.size w w') {b o : Nat} {nd : Nd} (h : NodeAt w b o nd) : NodeAt w' b o nd := by
  obtain ⟨h1, h2, kv, h3, h4⟩ := h
  exact ⟨keep_cell hb h1, keep_cell hb h2, kv, keep_cell hb h3, h4.keep hb⟩
theorem NodesAt.keep {w w' : World} (hb : Below w.heap.size w w') {v : Value} {ns : List Nd} (h : NodesAt w v ns) : NodesAt w' v ns := by
  obtain ⟨a, cap, hv, h1, h2, h3⟩ := h
  refine ⟨a, cap, hv, h1, h2, fun h0 => ?_⟩
  obtain ⟨b, off, ha, hc⟩ := h3 h0
  exact ⟨b, off, ha, fun i h => (hc i h).keep hb⟩

/-- What szLevel counts. -/
def ndSize (nd : Nd) : Nat := nd.s.size + nd.kids.length
def nsSum : List Nd → Nat
  | [] => 0
  | nd :: l => ndSize nd + nsSum l
theorem nsSum_append (a b : List Nd) : nsSum (a ++ b) = nsSum a + nsSum b := by
  induction a with
  | nil => simp [nsSum]
  | cons x a ih => simp [nsSum, ih]; omega
theorem nsSum_snoc (ns : List Nd) (i : Nat) (h : i < ns.length) : nsSum (ns.take (i + 1)) = nsSum (ns.take i) + ndSize ns[i] := by
  rw [List.take_succ_eq_append_getElem h, nsSum_append]; simp [nsSum]
theorem nsSum_le (ns : List Nd) (i : Nat) : nsSum (ns.take i) ≤ nsSum ns := by
  conv => rhs; rw [← List.take_append_drop i ns, nsSum_append]
  omega
end Go.Proofs.YtlhhdhmhncjilaaGreat

/- What the counting of a level (szLevel and what it calls) answers. -/
namespace Go.Proofs.YtlhhdhmhncjilaaGreat
open Go.ChangeShapes Go.WideShapes Go.ChangeAt Go.RowKit

/-- What is left when n is taken away: -1 where it is less than nothing. -/
def leftOf (left : Int) (n : Nat) : Int := if left < n then -1 else left - n
theorem ret_int {k : IntKind} {a b : Int} (h : a = b) : Ending.returned (.int k a) = .returned (.int k b) := by rw [h]

set_option maxHeartbeats 400000 in
theorem szIntS_any (v : Value) (ks : List Int) (left : Int) (w : World) (hk : IntsAt w v ks) (h0 : 0 ≤ left) (h1 : left ≤ 1048576) :
    Calls Tryz.prog 37 #[v, .int .i64 left] w fun e w' => e = .returned (.int .i64 (leftOf left ks.length)) ∧ w' = w := by
  obtain ⟨a, cap, rfl, hlc, hcm, _⟩ := hk
  unfold maxLen at hcm
  by_cases h : left < ks.length
  · go_enter Tryz.func37, Tryz.ntmps37
    go_wp2
    go_ret
    exact ⟨ret_int (by rw [leftOf, if_pos h]), rfl⟩
  · go_enter Tryz.func37, Tryz.ntmps37
    go_wp2
    go_ret
    exact ⟨ret_int (by rw [leftOf, if_neg (by omega)]), rfl⟩

set_option maxHeartbeats 400000 in
theorem szLNode_any (nd : Nd) (kv : Value) (left : Int) (w : World) (hs : nd.s.size ≤ maxLen) (hk : IntsAt w kv nd.kids) (h0 : 0 ≤ left) (h1 : left ≤ 1048576) :
    Calls Tryz.prog 88 #[.agg #[.int .i64 nd.k, .string nd.s, kv], .int .i64 left] w fun e w' => e = .returned (.int .i64 (leftOf left (ndSize nd))) ∧ Below w.heap.size w w' := by
  unfold maxLen at hs
  by_cases h : left < nd.s.size
  · go_enter Tryz.func88, Tryz.ntmps88
    go_wp2_with fail
    go_ret
    exact ⟨ret_int (by rw [leftOf, if_pos (by unfold ndSize; omega)]), (Below.refl _ _).alloc (Nat.le_refl _) _⟩
  · have hbox := fun o => hk.keep ((Below.refl w.heap.size w).alloc (Nat.le_refl _) o)
    have HK : Hid (∀ o, IntsAt (w.alloc o) kv nd.kids) := hbox
    clear hbox
    obtain ⟨a, cap, rfl, hlc, hcm, _⟩ := hk
    by_cases h2 : left - nd.s.size < nd.kids.length
    · have HL : Hid (leftOf (left - nd.s.size) nd.kids.length = -1) := by show leftOf _ _ = _; rw [leftOf, if_pos h2]
      go_enter Tryz.func88, Tryz.ntmps88
      go_wp2_with (go_at_call 37; refine (szIntS_any _ nd.kids _ _ (HK.out _) (by omega) (by omega)).mono ?_; rintro e w' ⟨rfl, rfl⟩; rw [HL.out])
      go_ret
      exact ⟨ret_int (by rw [leftOf, if_pos (by unfold ndSize; omega)]), (Below.refl _ _).alloc (Nat.le_refl _) _⟩
    · have HL : Hid (leftOf (left - nd.s.size) nd.kids.length = left - nd.s.size - nd.kids.length) := by show leftOf _ _ = _; rw [leftOf, if_neg h2]
      have hpos : (nd.kids.length : Int) ≤ left - nd.s.size := by omega
      clear h2
      go_enter Tryz.func88, Tryz.ntmps88
      go_wp2_with (go_at_call 37; refine (szIntS_any _ nd.kids _ _ (HK.out _) (by omega) (by omega)).mono ?_; rintro e w' ⟨rfl, rfl⟩; rw [HL.out])
      go_ret
      exact ⟨ret_int (by rw [leftOf, if_neg (by unfold ndSize; omega)]; unfold ndSize; omega), (Below.refl _ _).alloc (Nat.le_refl _) _⟩

set_option maxHeartbeats 1000000 in
theorem szLNodeS_any (v : Value) (ns : List Nd) (left : Int) (w : World) (hns : NodesAt w v ns) (hsz : ∀ nd ∈ ns, nd.s.size ≤ maxLen) (h0 : 0 ≤ left) (h1 : left ≤ 1048576) :
    Calls Tryz.prog 74 #[v, .int .i64 left] w fun e w' => e = .returned (.int .i64 (leftOf left (ns.length + nsSum ns))) ∧ Below w.heap.size w w' := by
  obtain ⟨a, cap, rfl, hlc, hcm, hnode⟩ := hns
  unfold maxLen at hcm
  by_cases h : left < ns.length
  · go_enter Tryz.func74, Tryz.ntmps74
    go_wp2_with fail
    go_ret
    exact ⟨ret_int (by rw [leftOf, if_pos (by omega)]), Below.refl _ _⟩
  have HN : Hid (0 < ns.length → ∃ b off, a = some ⟨b, off, none⟩ ∧ ∀ i (h : i < ns.length), NodeAt w b (off + i * 3) ns[i]) := hnode
  have HZ : Hid (∀ nd ∈ ns, nd.s.size ≤ maxLen) := hsz
  have d0 : decide (left - (ns.length : Int) < 0) = false := by simp; omega
  clear hnode hsz
  go_enter Tryz.func74, Tryz.ntmps74
  go_wp2_with fail
  go_loopw [1, 5] (fun l i wr => ∃ k : Nat, k ≤ ns.length ∧ i = .int .i64 k ∧ (nsSum (ns.take k) : Int) ≤ left - ns.length ∧ l = .int .i64 (left - ns.length - nsSum (ns.take k)) ∧ Below w.heap.size w wr) (fun _ i _ => ns.length - (intOf i).toNat)
  case atStart => exact ⟨0, by omega, rfl, by simp [nsSum]; omega, by simp [nsSum], Below.refl _ _⟩
  case round =>
    obtain ⟨k, hk, rfl, hsum, rfl, hbel⟩ := hrel
    by_cases hlt : k < ns.length
    · obtain ⟨b, off, ha, hc⟩ := HN.out (by omega)
      subst ha
      have hnd := hc k hlt
      have hsnoc := nsSum_snoc ns k hlt
      have hsl := HZ.out ns[k] (by simp)
      have hle := nsSum_le ns (k + 1)
      generalize ns[k] = nd at *
      obtain ⟨c1, c2, kv, c3, hkv⟩ := hnd
      have c1' := hbel.cell (p := ⟨b, off + k * 3, none⟩) (lt_cell c1)
      have c2' := hbel.cell (p := ⟨b, off + k * 3 + 1, none⟩) (lt_cell c2)
      have c3' := hbel.cell (p := ⟨b, off + k * 3 + 2, none⟩) (lt_cell c3)
      rw [c1] at c1'
      rw [c2] at c2'
      rw [c3] at c3'
      clear hc c1 c2 c3
      have HS : Hid (nsSum (ns.take (k + 1)) = nsSum (ns.take k) + ndSize nd) := hsnoc
      clear hsnoc
      have hkv' := hkv.keep (w' := wr) hbel
      obtain ⟨L, hL⟩ : ∃ L : Int, L = left - ns.length - nsSum (ns.take k) := ⟨_, rfl⟩
      rw [← hL]
      have hL0 : 0 ≤ L := by omega
      have hL1 : L ≤ 1048576 := by omega
      have HLL : Hid (L = left - ns.length - nsSum (ns.take k)) := hL
      clear hL
      by_cases h3 : L < ndSize nd
      · have HL : Hid (leftOf L (ndSize nd) = -1) := by show leftOf _ _ = _; rw [leftOf, if_pos h3]
        go_wp2_with (go_at_call 88; refine (szLNode_any nd kv _ _ hsl hkv' hL0 hL1).mono ?_; rintro e w' ⟨rfl, hb2⟩; rw [HL.out])
        go_ret
        have := HLL.out; have := HS.out
        exact ⟨ret_int (by rw [leftOf, if_pos (by omega)]), hbel.trans (hb2.mono hbel.size)⟩
      · have HL : Hid (leftOf L (ndSize nd) = L - ndSize nd) := by show leftOf _ _ = _; rw [leftOf, if_neg h3]
        have hge : (ndSize nd : Int) ≤ L := by omega
        go_wp2_with (go_at_call 88; refine (szLNode_any nd kv _ _ hsl hkv' hL0 hL1).mono ?_; rintro e w' ⟨rfl, hb2⟩; rw [HL.out])
        go_roundw
        case rel =>
          have := HLL.out; have := HS.out
          exact ⟨k + 1, by omega, by go_num, by omega, by rw [show L - ndSize nd = left - ns.length - nsSum (ns.take (k + 1)) from by omega], hbel.trans (hb2.mono hbel.size)⟩
        case measure => simp [intOf]; omega
    · have hke : ns.take k = ns := List.take_of_length_le (by omega)
      rw [hke] at hsum ⊢
      clear hke
      go_wp2_with fail
      go_ret
      exact ⟨ret_int (by rw [leftOf, if_neg (by omega)]; omega), hbel⟩

set_option maxHeartbeats 1000000 in
theorem szLevel_any (v : Value) (ns : List Nd) (left : Int) (w : World) (hns : NodesAt w v ns) (hsz : ∀ nd ∈ ns, nd.s.size ≤ maxLen) (h0 : 0 ≤ left) (h1 : left ≤ 1048576) :
    Calls Tryz.prog 56 #[.agg #[v], .int .i64 left] w fun e w' => e = .returned (.int .i64 (leftOf left (ns.length + nsSum ns))) ∧ Below w.heap.size w w' := by
  have HN : Hid (∀ o, NodesAt (w.alloc o) v ns) := fun o => hns.keep ((Below.refl w.heap.size w).alloc (Nat.le_refl _) o)
  have HZ : Hid (∀ nd ∈ ns, nd.s.size ≤ maxLen) := hsz
  obtain ⟨a, cap, rfl, hlc, hcm, _⟩ := hns
  clear hsz
  by_cases h : left < (ns.length + nsSum ns : Nat)
  · have HL : Hid (leftOf left (ns.length + nsSum ns) = -1) := by show leftOf _ _ = _; rw [leftOf, if_pos h]
    clear h
    rw [HL.out]
    go_enter Tryz.func56, Tryz.ntmps56
    go_wp2_with (go_at_call 74; refine (szLNodeS_any _ ns _ _ (HN.out _) HZ.out h0 h1).mono ?_; rintro e w' ⟨rfl, hb2⟩; rw [HL.out])
    go_ret
    exact ⟨rfl, ((Below.refl _ _).alloc (Nat.le_refl _) _).trans (hb2.mono (by simp))⟩
  · have HL : Hid (leftOf left (ns.length + nsSum ns) = left - (ns.length + nsSum ns : Nat)) := by show leftOf _ _ = _; rw [leftOf, if_neg h]
    obtain ⟨M, hM⟩ : ∃ M : Int, M = left - (ns.length + nsSum ns : Nat) := ⟨_, rfl⟩
    have hM0 : 0 ≤ M := by omega
    have HM : Hid (leftOf left (ns.length + nsSum ns) = M) := by show leftOf _ _ = _; rw [HL.out, hM]
    clear h HL hM
    rw [HM.out]
    go_enter Tryz.func56, Tryz.ntmps56
    go_wp2_with (go_at_call 74; refine (szLNodeS_any _ ns _ _ (HN.out _) HZ.out h0 h1).mono ?_; rintro e w' ⟨rfl, hb2⟩; rw [HM.out])
    go_ret
    exact ⟨rfl, ((Below.refl _ _).alloc (Nat.le_refl _) _).trans (hb2.mono (by simp))⟩
end Go.Proofs.YtlhhdhmhncjilaaGreat
