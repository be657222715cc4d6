/- What the counting of a level (szLevel and what it calls) answers. -/
import Derived.Test.YtcagcfhnbphggaaGreatDoorMem
namespace Go.Proofs.YtcagcfhnbphggaaGreatDoor
open Go.ChangeShapes Go.WideShapes Go.ChangeAt Go.RowKit

/-- What is left when n is taken away: -1 where it is less than nothing. -/
def leftOf (left : Int) (n : Nat) : Int := if left < n then -1 else left - n
theorem ret_int {k : IntKind} {a b : Int} (h : a = b) : Ending.returned (.int k a) = .returned (.int k b) := by rw [h]

set_option maxHeartbeats 400000 in
theorem szIntS_any (v : Value) (ks : List Int) (left : Int) (w : World) (hk : IntsAt w v ks) (h0 : 0 ≤ left) (h1 : left ≤ 1048576) :
    Calls Tryz.prog 41 #[v, .int .i64 left] w fun e w' => e = .returned (.int .i64 (leftOf left ks.length)) ∧ w' = w := by
  obtain ⟨a, cap, rfl, hlc, hcm, _⟩ := hk
  unfold maxLen at hcm
  by_cases h : left < ks.length
  · go_enter Tryz.func41, Tryz.ntmps41
    go_wp2
    go_ret
    exact ⟨ret_int (by rw [leftOf, if_pos h]), rfl⟩
  · go_enter Tryz.func41, Tryz.ntmps41
    go_wp2
    go_ret
    exact ⟨ret_int (by rw [leftOf, if_neg (by omega)]), rfl⟩

set_option maxHeartbeats 400000 in
theorem szLNode_any (nd : Nd) (kv : Value) (left : Int) (w : World) (hs : nd.s.size ≤ maxLen) (hk : IntsAt w kv nd.kids) (h0 : 0 ≤ left) (h1 : left ≤ 1048576) :
    Calls Tryz.prog 92 #[.agg #[.int .i64 nd.k, .string nd.s, kv], .int .i64 left] w fun e w' => e = .returned (.int .i64 (leftOf left (ndSize nd))) ∧ Below w.heap.size w w' := by
  unfold maxLen at hs
  by_cases h : left < nd.s.size
  · go_enter Tryz.func92, Tryz.ntmps92
    go_wp2_with fail
    go_ret
    exact ⟨ret_int (by rw [leftOf, if_pos (by unfold ndSize; omega)]), (Below.refl _ _).alloc (Nat.le_refl _) _⟩
  · have hbox := fun o => hk.keep ((Below.refl w.heap.size w).alloc (Nat.le_refl _) o)
    have HK : Hid (∀ o, IntsAt (w.alloc o) kv nd.kids) := hbox
    clear hbox
    obtain ⟨a, cap, rfl, hlc, hcm, _⟩ := hk
    by_cases h2 : left - nd.s.size < nd.kids.length
    · have HL : Hid (leftOf (left - nd.s.size) nd.kids.length = -1) := by show leftOf _ _ = _; rw [leftOf, if_pos h2]
      go_enter Tryz.func92, Tryz.ntmps92
      go_wp2_with (go_at_call 41; refine (szIntS_any _ nd.kids _ _ (HK.out _) (by omega) (by omega)).mono ?_; rintro e w' ⟨rfl, rfl⟩; rw [HL.out])
      go_ret
      exact ⟨ret_int (by rw [leftOf, if_pos (by unfold ndSize; omega)]), (Below.refl _ _).alloc (Nat.le_refl _) _⟩
    · have HL : Hid (leftOf (left - nd.s.size) nd.kids.length = left - nd.s.size - nd.kids.length) := by show leftOf _ _ = _; rw [leftOf, if_neg h2]
      have hpos : (nd.kids.length : Int) ≤ left - nd.s.size := by omega
      clear h2
      go_enter Tryz.func92, Tryz.ntmps92
      go_wp2_with (go_at_call 41; refine (szIntS_any _ nd.kids _ _ (HK.out _) (by omega) (by omega)).mono ?_; rintro e w' ⟨rfl, rfl⟩; rw [HL.out])
      go_ret
      exact ⟨ret_int (by rw [leftOf, if_neg (by unfold ndSize; omega)]; unfold ndSize; omega), (Below.refl _ _).alloc (Nat.le_refl _) _⟩

set_option maxHeartbeats 1000000 in
theorem szLNodeS_any (v : Value) (ns : List Nd) (left : Int) (w : World) (hns : NodesAt w v ns) (hsz : ∀ nd ∈ ns, nd.s.size ≤ maxLen) (h0 : 0 ≤ left) (h1 : left ≤ 1048576) :
    Calls Tryz.prog 77 #[v, .int .i64 left] w fun e w' => e = .returned (.int .i64 (leftOf left (ns.length + nsSum ns))) ∧ Below w.heap.size w w' := by
  obtain ⟨a, cap, rfl, hlc, hcm, hnode⟩ := hns
  unfold maxLen at hcm
  by_cases h : left < ns.length
  · go_enter Tryz.func77, Tryz.ntmps77
    go_wp2_with fail
    go_ret
    exact ⟨ret_int (by rw [leftOf, if_pos (by omega)]), Below.refl _ _⟩
  have HN : Hid (0 < ns.length → ∃ b off, a = some ⟨b, off, none⟩ ∧ ∀ i (h : i < ns.length), NodeAt w b (off + i * 3) ns[i]) := hnode
  have HZ : Hid (∀ nd ∈ ns, nd.s.size ≤ maxLen) := hsz
  have d0 : decide (left - (ns.length : Int) < 0) = false := by simp; omega
  clear hnode hsz
  go_enter Tryz.func77, Tryz.ntmps77
  go_wp2_with fail
  go_loopw [1, 5] (fun l i wr => ∃ k : Nat, k ≤ ns.length ∧ i = .int .i64 k ∧ (nsSum (ns.take k) : Int) ≤ left - ns.length ∧ l = .int .i64 (left - ns.length - nsSum (ns.take k)) ∧ Below w.heap.size w wr) (fun _ i _ => ns.length - (intOf i).toNat)
  case atStart => exact ⟨0, by omega, rfl, by simp [nsSum]; omega, by simp [nsSum], Below.refl _ _⟩
  case round =>
    obtain ⟨k, hk, rfl, hsum, rfl, hbel⟩ := hrel
    by_cases hlt : k < ns.length
    · obtain ⟨b, off, ha, hc⟩ := HN.out (by omega)
      subst ha
      have hnd := hc k hlt
      have hsnoc := nsSum_snoc ns k hlt
      have hsl := HZ.out ns[k] (by simp)
      have hle := nsSum_le ns (k + 1)
      generalize ns[k] = nd at *
      obtain ⟨c1, c2, kv, c3, hkv⟩ := hnd
      have c1' := hbel.cell (p := ⟨b, off + k * 3, none⟩) (lt_cell c1)
      have c2' := hbel.cell (p := ⟨b, off + k * 3 + 1, none⟩) (lt_cell c2)
      have c3' := hbel.cell (p := ⟨b, off + k * 3 + 2, none⟩) (lt_cell c3)
      rw [c1] at c1'
      rw [c2] at c2'
      rw [c3] at c3'
      clear hc c1 c2 c3
      have HS : Hid (nsSum (ns.take (k + 1)) = nsSum (ns.take k) + ndSize nd) := hsnoc
      clear hsnoc
      have hkv' := hkv.keep (w' := wr) hbel
      obtain ⟨L, hL⟩ : ∃ L : Int, L = left - ns.length - nsSum (ns.take k) := ⟨_, rfl⟩
      rw [← hL]
      have hL0 : 0 ≤ L := by omega
      have hL1 : L ≤ 1048576 := by omega
      have HLL : Hid (L = left - ns.length - nsSum (ns.take k)) := hL
      clear hL
      by_cases h3 : L < ndSize nd
      · have HL : Hid (leftOf L (ndSize nd) = -1) := by show leftOf _ _ = _; rw [leftOf, if_pos h3]
        go_wp2_with (go_at_call 92; refine (szLNode_any nd kv _ _ hsl hkv' hL0 hL1).mono ?_; rintro e w' ⟨rfl, hb2⟩; rw [HL.out])
        go_ret
        have := HLL.out; have := HS.out
        exact ⟨ret_int (by rw [leftOf, if_pos (by omega)]), hbel.trans (hb2.mono hbel.size)⟩
      · have HL : Hid (leftOf L (ndSize nd) = L - ndSize nd) := by show leftOf _ _ = _; rw [leftOf, if_neg h3]
        have hge : (ndSize nd : Int) ≤ L := by omega
        go_wp2_with (go_at_call 92; refine (szLNode_any nd kv _ _ hsl hkv' hL0 hL1).mono ?_; rintro e w' ⟨rfl, hb2⟩; rw [HL.out])
        go_roundw
        case rel =>
          have := HLL.out; have := HS.out
          exact ⟨k + 1, by omega, by go_num, by omega, by rw [show L - ndSize nd = left - ns.length - nsSum (ns.take (k + 1)) from by omega], hbel.trans (hb2.mono hbel.size)⟩
        case measure => simp [intOf]; omega
    · have hke : ns.take k = ns := List.take_of_length_le (by omega)
      rw [hke] at hsum ⊢
      clear hke
      go_wp2_with fail
      go_ret
      exact ⟨ret_int (by rw [leftOf, if_neg (by omega)]; omega), hbel⟩

set_option maxHeartbeats 1000000 in
theorem szLevel_any (v : Value) (ns : List Nd) (left : Int) (w : World) (hns : NodesAt w v ns) (hsz : ∀ nd ∈ ns, nd.s.size ≤ maxLen) (h0 : 0 ≤ left) (h1 : left ≤ 1048576) :
    Calls Tryz.prog 61 #[.agg #[v], .int .i64 left] w fun e w' => e = .returned (.int .i64 (leftOf left (ns.length + nsSum ns))) ∧ Below w.heap.size w w' := by
  have HN : Hid (∀ o, NodesAt (w.alloc o) v ns) := fun o => hns.keep ((Below.refl w.heap.size w).alloc (Nat.le_refl _) o)
  have HZ : Hid (∀ nd ∈ ns, nd.s.size ≤ maxLen) := hsz
  obtain ⟨a, cap, rfl, hlc, hcm, _⟩ := hns
  clear hsz
  by_cases h : left < (ns.length + nsSum ns : Nat)
  · have HL : Hid (leftOf left (ns.length + nsSum ns) = -1) := by show leftOf _ _ = _; rw [leftOf, if_pos h]
    clear h
    rw [HL.out]
    go_enter Tryz.func61, Tryz.ntmps61
    go_wp2_with (go_at_call 77; refine (szLNodeS_any _ ns _ _ (HN.out _) HZ.out h0 h1).mono ?_; rintro e w' ⟨rfl, hb2⟩; rw [HL.out])
    go_ret
    exact ⟨rfl, ((Below.refl _ _).alloc (Nat.le_refl _) _).trans (hb2.mono (by simp))⟩
  · have HL : Hid (leftOf left (ns.length + nsSum ns) = left - (ns.length + nsSum ns : Nat)) := by show leftOf _ _ = _; rw [leftOf, if_neg h]
    obtain ⟨M, hM⟩ : ∃ M : Int, M = left - (ns.length + nsSum ns : Nat) := ⟨_, rfl⟩
    have hM0 : 0 ≤ M := by omega
    have HM : Hid (leftOf left (ns.length + nsSum ns) = M) := by show leftOf _ _ = _; rw [HL.out, hM]
    clear h HL hM
    rw [HM.out]
    go_enter Tryz.func61, Tryz.ntmps61
    go_wp2_with (go_at_call 77; refine (szLNodeS_any _ ns _ _ (HN.out _) HZ.out h0 h1).mono ?_; rintro e w' ⟨rfl, hb2⟩; rw [HM.out])
    go_ret
    exact ⟨rfl, ((Below.refl _ _).alloc (Nat.le_refl _) _).trans (hb2.mono (by simp))⟩
end Go.Proofs.YtcagcfhnbphggaaGreatDoor

/- How a term lies in memory: a row of nodes, each three numbers, a text, a row of levels and a row of numbers; what was there stays so where nothing below is written; what is counted of a term. -/
namespace Go.Proofs.YtcagcfhnbphggaaGreatDoor
open Go.ChangeShapes Go.WideShapes Go.ChangeAt Go.RowKit

/-- A node: its kind, its number, its mode, its text, its levels, its kids. -/
structure Td where
  k : Int
  n : Int
  m : Int
  s : ByteArray
  lv : List (List Nd)
  kids : List Int

def LevsAt (w : World) (v : Value) (ls : List (List Nd)) : Prop :=
  ∃ a cap, v = .slice a ls.length cap ∧ ls.length ≤ cap ∧ cap ≤ maxLen ∧
    (0 < ls.length → ∃ b off, a = some ⟨b, off, none⟩ ∧ ∀ i (h : i < ls.length), ∃ u, w.cell? ⟨b, off + i, none⟩ = some u ∧ NodesAt w u ls[i])
def TNodeAt (w : World) (b o : Nat) (td : Td) : Prop :=
  w.cell? ⟨b, o, none⟩ = some (.int .i64 td.k) ∧ w.cell? ⟨b, o + 1, none⟩ = some (.int .i64 td.n) ∧ w.cell? ⟨b, o + 2, none⟩ = some (.int .i64 td.m) ∧ w.cell? ⟨b, o + 3, none⟩ = some (.string td.s) ∧
    ∃ lv, w.cell? ⟨b, o + 4, none⟩ = some lv ∧ LevsAt w lv td.lv ∧ ∃ kv, w.cell? ⟨b, o + 5, none⟩ = some kv ∧ IntsAt w kv td.kids
def TNodesAt (w : World) (v : Value) (ts : List Td) : Prop :=
  ∃ a cap, v = .slice a ts.length cap ∧ ts.length ≤ cap ∧ cap ≤ maxLen ∧
    (0 < ts.length → ∃ b off, a = some ⟨b, off, none⟩ ∧ ∀ i (h : i < ts.length), TNodeAt w b (off + i * 6) ts[i])
/-- No text in it is too long for a string. -/
def LvLens (l : List Nd) : Prop := ∀ nd ∈ l, nd.s.size ≤ maxLen
def TLens (td : Td) : Prop := td.s.size ≤ maxLen ∧ ∀ l ∈ td.lv, LvLens l

theorem LevsAt.keep {w w' : World} (hb : Below w.heap.size w w') {v : Value} {ls : List (List Nd)} (h : LevsAt w v ls) : LevsAt w' v ls := by
  obtain ⟨a, cap, hv, h1, h2, h3⟩ := h
  refine ⟨a, cap, hv, h1, h2, fun h0 => ?_⟩
  obtain ⟨b, off, ha, hc⟩ := h3 h0
  refine ⟨b, off, ha, fun i h => ?_⟩
  obtain ⟨u, hu, hn⟩ := hc i h
  exact ⟨u, keep_cell hb hu, hn.keep hb⟩
theorem TNodeAt.keep {w w' : World} (hb : Below w.heap.size w w') {b o : Nat} {td : Td} (h : TNodeAt w b o td) : TNodeAt w' b o td := by
  obtain ⟨h1, h2, h3, h4, lv, h5, h6, kv, h7, h8⟩ := h
  exact ⟨keep_cell hb h1, keep_cell hb h2, keep_cell hb h3, keep_cell hb h4, lv, keep_cell hb h5, h6.keep hb, kv, keep_cell hb h7, h8.keep hb⟩
theorem TNodesAt.keep {w w' : World} (hb : Below w.heap.size w w') {v : Value} {ts : List Td} (h : TNodesAt w v ts) : TNodesAt w' v ts := by
  obtain ⟨a, cap, hv, h1, h2, h3⟩ := h
  refine ⟨a, cap, hv, h1, h2, fun h0 => ?_⟩
  obtain ⟨b, off, ha, hc⟩ := h3 h0
  exact ⟨b, off, ha, fun i h => (hc i h).keep hb⟩

/-- A sum over a list. -/
def sumL {α : Type} (f : α → Nat) : List α → Nat
  | [] => 0
  | x :: l => f x + sumL f l
theorem sumL_append {α : Type} (f : α → Nat) (a b : List α) : sumL f (a ++ b) = sumL f a + sumL f b := by
  induction a with
  | nil => simp [sumL]
  | cons x a ih => simp [sumL, ih]; omega
theorem sumL_snoc {α : Type} (f : α → Nat) (l : List α) (i : Nat) (h : i < l.length) : sumL f (l.take (i + 1)) = sumL f (l.take i) + f l[i] := by
  rw [List.take_succ_eq_append_getElem h, sumL_append]; simp [sumL]
theorem sumL_le {α : Type} (f : α → Nat) (l : List α) (i : Nat) : sumL f (l.take i) ≤ sumL f l := by
  conv => rhs; rw [← List.take_append_drop i l, sumL_append]
  omega
theorem sumL_mem {α : Type} (f : α → Nat) {l : List α} {x : α} (h : x ∈ l) : f x ≤ sumL f l := by
  induction l with
  | nil => cases h
  | cons y l ih =>
    simp only [sumL]
    rcases List.mem_cons.1 h with rfl | h2
    · omega
    · have := ih h2; omega
def lvSize (l : List Nd) : Nat := l.length + nsSum l
def tdSize (td : Td) : Nat := td.s.size + (td.lv.length + sumL lvSize td.lv) + td.kids.length
def tmSize (ts : List Td) : Nat := ts.length + sumL tdSize ts
end Go.Proofs.YtcagcfhnbphggaaGreatDoor
