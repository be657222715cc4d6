/- How a term lies in memory: a row of nodes, each three numbers, a text, a row of levels and a row of numbers; what was there stays so where nothing below is written; what is counted of a term. -/
import Derived.Test.YtpmpooekpeocdaaGreatSz
namespace Go.Proofs.YtpmpooekpeocdaaGreat
open Go.ChangeShapes Go.WideShapes Go.ChangeAt Go.RowKit

/-- A node: its kind, its number, its mode, its text, its levels, its kids. -/
structure Td where
  k : Int
  n : Int
  m : Int
  s : ByteArray
  lv : List (List Nd)
  kids : List Int

def LevsAt (w : World) (v : Value) (ls : List (List Nd)) : Prop :=
  ∃ a cap, v = .slice a ls.length cap ∧ ls.length ≤ cap ∧ cap ≤ maxLen ∧
    (0 < ls.length → ∃ b off, a = some ⟨b, off, none⟩ ∧ ∀ i (h : i < ls.length), ∃ u, w.cell? ⟨b, off + i, none⟩ = some u ∧ NodesAt w u ls[i])
def TNodeAt (w : World) (b o : Nat) (td : Td) : Prop :=
  w.cell? ⟨b, o, none⟩ = some (.int .i64 td.k) ∧ w.cell? ⟨b, o + 1, none⟩ = some (.int .i64 td.n) ∧ w.cell? ⟨b, o + 2, none⟩ = some (.int .i64 td.m) ∧ w.cell? ⟨b, o + 3, none⟩ = some (.string td.s) ∧
    ∃ lv, w.cell? ⟨b, o + 4, none⟩ = some lv ∧ LevsAt w lv td.lv ∧ ∃ kv, w.cell? ⟨b, o + 5, none⟩ = some kv ∧ IntsAt w kv td.kids
def TNodesAt (w : World) (v : Value) (ts : List Td) : Prop :=
  ∃ a cap, v = .slice a ts.length cap ∧ ts.length ≤ cap ∧ cap ≤ maxLen ∧
    (0 < ts.length → ∃ b off, a = some ⟨b, off, none⟩ ∧ ∀ i (h : i < ts.length), TNodeAt w b (off + i * 6) ts[i])
/-- No text in it is too long for a string. -/
def LvLens (l : List Nd) : Prop := ∀ nd ∈ l, nd.s.size ≤ maxLen
def TLens (td : Td) : Prop := td.s.size ≤ maxLen ∧ ∀ l ∈ td.lv, LvLens l

theorem LevsAt.keep {w w' : World} (hb : Below w.heap.size w w') {v : Value} {ls : List (List Nd)} (h : LevsAt w v ls) : LevsAt w' v ls := by
  obtain ⟨a, cap, hv, h1, h2, h3⟩ := h
  refine ⟨a, cap, hv, h1, h2, fun h0 => ?_⟩
  obtain ⟨b, off, ha, hc⟩ := h3 h0
  refine ⟨b, off, ha, fun i h => ?_⟩
  obtain ⟨u, hu, hn⟩ := hc i h
  exact ⟨u, keep_cell hb hu, hn.keep hb⟩
theorem TNodeAt.keep {w w' : World} (hb : Below w.heap.size w w') {b o : Nat} {td : Td} (h : TNodeAt w b o td) : TNodeAt w' b o td := by
  obtain ⟨h1, h2, h3, h4, lv, h5, h6, kv, h7, h8⟩ := h
  exact ⟨keep_cell hb h1, keep_cell hb h2, keep_cell hb h3, keep_cell hb h4, lv, keep_cell hb h5, h6.keep hb, kv, keep_cell hb h7, h8.keep hb⟩
theorem TNodesAt.keep {w w' : World} (hb : Below w.heap.size w w') {v : Value} {ts : List Td} (h : TNodesAt w v ts) : TNodesAt w' v ts := by
  obtain ⟨a, cap, hv, h1, h2, h3⟩ := h
  refine ⟨a, cap, hv, h1, h2, fun h0 => ?_⟩
  obtain ⟨b, off, ha, hc⟩ := h3 h0
  exact ⟨b, off, ha, fun i h => (hc i h).keep hb⟩

/-- A sum over a list. -/
def sumL {α : Type} (f : α → Nat) : List α → Nat
  | [] => 0
  | x :: l => f x + sumL f l
theorem sumL_append {α : Type} (f : α → Nat) (a b : List α) : sumL f (a ++ b) = sumL f a + sumL f b := by
  induction a with
  | nil => simp [sumL]
  | cons x a ih => simp [sumL, ih]; omega
theorem sumL_snoc {α : Type} (f : α → Nat) (l : List α) (i : Nat) (h : i < l.length) : sumL f (l.take (i + 1)) = sumL f (l.take i) + f l[i] := by
  rw [List.take_succ_eq_append_getElem h, sumL_append]; simp [sumL]
theorem sumL_le {α : Type} (f : α → Nat) (l : List α) (i : Nat) : sumL f (l.take i) ≤ sumL f l := by
  conv => rhs; rw [← List.take_append_drop i l, sumL_append]
  omega
theorem sumL_mem {α : Type} (f : α → Nat) {l : List α} {x : α} (h : x ∈ l) : f x ≤ sumL f l := by
  induction l with
  | nil => cases h
  | cons y l ih =>
    simp only [sumL]
    rcases List.mem_cons.1 h with rfl | h2
    · omega
    · have := ih h2; omega
def lvSize (l : List Nd) : Nat := l.length + nsSum l
def tdSize (td : Td) : Nat := td.s.size + (td.lv.length + sumL lvSize td.lv) + td.kids.length
def tmSize (ts : List Td) : Nat := ts.length + sumL tdSize ts
end Go.Proofs.YtpmpooekpeocdaaGreat

/- What a valid level is, as a plain function of its nodes, and the facts on it that the walks want. No program is named here. -/
namespace Go.Proofs.YtpmpooekpeocdaaGreat

def kidsN (k : Int) : Int := if k = 1 ∨ k = 5 then 0 else if k = 2 then 1 else if k = 3 ∨ k = 4 then 2 else -1
theorem kidsN_cases (k : Int) : kidsN k = -1 ∨ kidsN k = 0 ∨ kidsN k = 1 ∨ kidsN k = 2 := by
  unfold kidsN; split
  · simp
  · split
    · simp
    · split <;> simp
theorem kidsN_neg (k : Int) : kidsN k = -1 ↔ (k < 1 ∨ 5 < k) := by
  unfold kidsN; split
  · simp; omega
  · split
    · simp; omega
    · split
      · simp; omega
      · simp; omega

def paramB (s : ByteArray) : Bool := shortB s && !(s.toList == [109, 97, 120]) && !(s.toList == [105, 109, 97, 120])
def fieldsB (nd : Nd) : Bool := if nd.k = 5 then paramB nd.s else nd.s.toList.isEmpty

/-- One node more: the roots of the stretches that have no parent yet. -/
def stepN (st : List Int) (i : Nat) (nd : Nd) : Option (List Int) :=
  if kidsN nd.k < 0 ∨ (st.length : Int) < kidsN nd.k ∨ fieldsB nd = false ∨ nd.kids ≠ st.drop (st.length - (kidsN nd.k).toNat) then none
  else some (st.take (st.length - (kidsN nd.k).toNat) ++ [(i : Int)])
def runTo (ns : List Nd) : Nat → Option (List Int)
  | 0 => some []
  | i + 1 => match runTo ns i, ns[i]? with
    | some st, some nd => stepN st i nd
    | _, _ => none
theorem runTo_succ (ns : List Nd) (i : Nat) (h : i < ns.length) (st : List Int) (hr : runTo ns i = some st) : runTo ns (i + 1) = stepN st i ns[i] := by
  simp [runTo, hr, h]
theorem runTo_none (ns : List Nd) (i j : Nat) (hij : i ≤ j) (h : runTo ns i = none) : runTo ns j = none := by
  induction j with
  | zero => have : i = 0 := by omega
            subst this; simp [runTo] at h
  | succ j ih =>
    by_cases e : i = j + 1
    · subst e; exact h
    · simp [runTo, ih (by omega)]
/-- The parameters, each once. -/
def hasB (l : List ByteArray) (s : ByteArray) : Bool := l.any (fun x => decide (x = s))
def addName (l : List ByteArray) (nd : Nd) : List ByteArray := if nd.k = 5 ∧ hasB l nd.s = false then l ++ [nd.s] else l
def namesOf (ns : List Nd) : List ByteArray := ns.foldl addName []
def lvlB (ns : List Nd) : Bool := decide (1 ≤ ns.length) && decide (ns.length ≤ 64) && (match runTo ns ns.length with | some st => decide (st.length = 1) && decide ((namesOf ns).length ≤ 6) | none => false)

theorem names_snoc (ns : List Nd) (i : Nat) (h : i < ns.length) : namesOf (ns.take (i + 1)) = addName (namesOf (ns.take i)) ns[i] := by
  unfold namesOf
  rw [List.take_succ_eq_append_getElem h, List.foldl_append]; rfl
theorem addName_len (l : List ByteArray) (nd : Nd) : l.length ≤ (addName l nd).length := by
  unfold addName; split <;> simp
theorem foldl_len (ns : List Nd) (l : List ByteArray) : l.length ≤ (ns.foldl addName l).length := by
  induction ns generalizing l with
  | nil => simp
  | cons x ns ih => exact Nat.le_trans (addName_len l x) (ih _)
theorem names_le (ns : List Nd) (i : Nat) : (namesOf (ns.take i)).length ≤ (namesOf ns).length := by
  unfold namesOf
  conv => rhs; rw [← List.take_append_drop i ns, List.foldl_append]
  exact foldl_len _ _

theorem beq_bytes (a b : ByteArray) : (a.toList == b.toList) = decide (a = b) := by
  rw [Bool.eq_iff_iff]
  simp only [beq_iff_eq, decide_eq_true_eq, ByteArray.toList_eq]
  constructor
  · intro h; cases a; cases b; simp at h; simp [h]
  · intro h; rw [h]

/-- The first place of a text in a list, -1 for none. -/
def atS (l : List ByteArray) (s : ByteArray) : Int := match l.findIdx? (fun x => decide (x = s)) with | some i => i | none => -1
theorem atS_found (l : List ByteArray) (s : ByteArray) (k : Nat) (h : k < l.length) (he : l[k] = s) (hn : ∀ j (_ : j < k), l[j] ≠ s) : atS l s = k := by
  unfold atS
  have : l.findIdx? (fun x => decide (x = s)) = some k := by
    rw [List.findIdx?_eq_some_iff_getElem]
    exact ⟨h, by simp [he], fun j hj => by simp [hn j hj]⟩
  rw [this]
theorem atS_none (l : List ByteArray) (s : ByteArray) (hn : ∀ j (h : j < l.length), l[j] ≠ s) : atS l s = -1 := by
  unfold atS
  have : l.findIdx? (fun x => decide (x = s)) = none := by
    rw [List.findIdx?_eq_none_iff]
    intro x hx
    obtain ⟨j, hj, rfl⟩ := List.getElem_of_mem hx
    simp [hn j hj]
  rw [this]
theorem atS_mem (l : List ByteArray) (s : ByteArray) : decide (0 ≤ atS l s) = hasB l s := by
  rw [Bool.eq_iff_iff]; simp only [decide_eq_true_eq, hasB, List.any_eq_true]
  unfold atS
  split
  · rename_i i h
    rw [List.findIdx?_eq_some_iff_getElem] at h
    obtain ⟨h1, h2, _⟩ := h
    simp at h2
    exact ⟨fun _ => ⟨l[i], List.getElem_mem h1, h2⟩, fun _ => by omega⟩
  · rename_i h
    rw [List.findIdx?_eq_none_iff] at h
    constructor
    · intro h; omega
    · rintro ⟨x, hx, he⟩; have := h x hx; simp [he] at this
end Go.Proofs.YtpmpooekpeocdaaGreat

/- What the copying of a level (toLevel and what it calls) answers: a new level with the same nodes; nothing that was there is written. -/
namespace Go.Proofs.YtpmpooekpeocdaaGreat
open Go.ChangeShapes Go.WideShapes Go.ChangeAt Go.RowKit

theorem Tryz.info3 : (Tryz.prog.info? 3).map (fun i => (i.zero, i.size, i.bytes)) = some (some (.int .i64 0), 1, 8) := by kernel_rfl
theorem Tryz.info243 : (Tryz.prog.info? 243).map (fun i => (i.zero, i.size, i.bytes)) = some (some (.agg #[.int .i64 0, .string ⟨#[]⟩, .slice none 0 0]), 3, 48) := by kernel_rfl

theorem cell_set {w : World} {p : Addr} {u : Value} {b o : Nat} (h : b ≠ p.block) : (w.setCell p u).cell? ⟨b, o, none⟩ = w.cell? ⟨b, o, none⟩ :=
  World.cell?_of_block (a := ⟨b, o, none⟩) (Below.heap_setCell w p u b h)
theorem grown_of {w w' : World} (hb : Below w.heap.size w w') : w.grownBy w' none := ⟨hb.os, hb.tape, hb.output, hb.size, fun k hk _ => hb.block k hk⟩
theorem row_keep {w w' : World} (hb : Below w.heap.size w w') {base : Nat} {e : TypeId} {size : Nat} {v : Value} {n : Nat} {xs : List Value} (h : w.ownsRow base e size v n xs) : w'.ownsRow base e size v n xs :=
  h.kept (grown_of hb) (by cases hv : v.ownBlock <;> simp)
theorem bcell {W w1 : World} (hb : Below W.heap.size W w1) : (∀ b o, b < W.heap.size → w1.cell? ⟨b, o, none⟩ = W.cell? ⟨b, o, none⟩) ∧ (∀ b o, b < W.heap.size → w1.frozen? ⟨b, o, none⟩ = W.frozen? ⟨b, o, none⟩) :=
  ⟨fun b o h => hb.cell (p := ⟨b, o, none⟩) h, fun b o h => hb.frozen (p := ⟨b, o, none⟩) h⟩

end Go.Proofs.YtpmpooekpeocdaaGreat

/- What the small functions around LevelOk answer, on both sides: how many kids a kind has, names of parameters, a node's fields, places in lists, equal rows. -/
namespace Go.Proofs.YtpmpooekpeocdaaGreat
open Go.ChangeShapes Go.WideShapes Go.ChangeAt Go.RowKit

set_option maxHeartbeats 400000 in
theorem levelKids_any (k : Int) (w : World) : Calls Tryz.prog 234 #[.int .i64 k] w fun e w' => e = .returned (.int .i64 (kidsN k)) ∧ w' = w := by
  by_cases h1 : k = 1
  · subst h1; go_enter Tryz.func234, Tryz.ntmps234; go_wp2; go_ret; exact ⟨rfl, rfl⟩
  by_cases h5 : k = 5
  · subst h5; go_enter Tryz.func234, Tryz.ntmps234; go_wp2; go_ret; exact ⟨rfl, rfl⟩
  by_cases h2 : k = 2
  · subst h2; go_enter Tryz.func234, Tryz.ntmps234; go_wp2; go_ret; exact ⟨rfl, rfl⟩
  by_cases h3 : k = 3
  · subst h3; go_enter Tryz.func234, Tryz.ntmps234; go_wp2; go_ret; exact ⟨rfl, rfl⟩
  by_cases h4 : k = 4
  · subst h4; go_enter Tryz.func234, Tryz.ntmps234; go_wp2; go_ret; exact ⟨rfl, rfl⟩
  have HK : Hid (kidsN k = -1) := by show _ = _; unfold kidsN; rw [if_neg (by omega), if_neg (by omega), if_neg (by omega)]
  have e1 : (k == 1) = false := beq_eq_false_iff_ne.2 h1
  have e2 : (k == 2) = false := beq_eq_false_iff_ne.2 h2
  have e3 : (k == 3) = false := beq_eq_false_iff_ne.2 h3
  have e4 : (k == 4) = false := beq_eq_false_iff_ne.2 h4
  have e5 : (k == 5) = false := beq_eq_false_iff_ne.2 h5
  clear h1 h2 h3 h4 h5
  go_enter Tryz.func234, Tryz.ntmps234; go_wp2; go_ret; exact ⟨ret_int HK.out.symm, rfl⟩

set_option maxHeartbeats 400000 in
theorem paramNameOk_any (s : ByteArray) (w : World) (hs : s.size ≤ maxLen) : Calls Tryz.prog 149 #[.string s] w fun e w' => e = .returned (.bool (paramB s)) ∧ w' = w := by
  have HP : Hid (paramB s = (shortB s && !(s.toList == [109, 97, 120]) && !(s.toList == [105, 109, 97, 120]))) := rfl
  cases h : shortB s
  all_goals
    rw [h] at HP
    cases h1 : (s.toList == [109, 97, 120])
    all_goals
      rw [h1] at HP
      go_enter Tryz.func149, Tryz.ntmps149
      go_wp2_with (go_at_call 148; refine (implShort_any _ _ hs).mono ?_; rintro e w' ⟨rfl, rfl⟩)
      go_ret
      exact ⟨ret_bool HP.out.symm, rfl⟩
set_option maxHeartbeats 400000 in
theorem l1ParamOk_any (s : ByteArray) (w : World) (hs : s.size ≤ maxLen) : Calls Tryz.prog 105 #[.string s] w fun e w' => e = .returned (.bool (paramB s)) ∧ w' = w := by
  have HP : Hid (paramB s = (shortB s && !(s.toList == [109, 97, 120]) && !(s.toList == [105, 109, 97, 120]))) := rfl
  cases h : shortB s
  all_goals
    rw [h] at HP
    cases h1 : (s.toList == [109, 97, 120])
    all_goals
      rw [h1] at HP
      go_enter Tryz.func105, Tryz.ntmps105
      go_wp2_with (go_at_call 104; refine (specShort_any _ _ hs).mono ?_; rintro e w' ⟨rfl, rfl⟩)
      go_ret
      exact ⟨ret_bool HP.out.symm, rfl⟩
set_option maxHeartbeats 400000 in
theorem levelFieldsOk_any (nd : Nd) (kv : Value) (w : World) (hs : nd.s.size ≤ maxLen) (hk : IntsAt w kv nd.kids) : Calls Tryz.prog 235 #[.agg #[.int .i64 nd.k, .string nd.s, kv]] w fun e w' => e = .returned (.bool (fieldsB nd)) ∧ Below w.heap.size w w' := by
  obtain ⟨a, cap, rfl, _, _, _⟩ := hk
  by_cases h : nd.k = 5
  · have HF : Hid (fieldsB nd = paramB nd.s) := by show _ = _; rw [fieldsB, if_pos h]
    have hq : (nd.k == 5) = true := beq_iff_eq.2 h
    clear h
    go_enter Tryz.func235, Tryz.ntmps235
    go_wp2_with (go_at_call 149; refine (paramNameOk_any _ _ hs).mono ?_; rintro e w' ⟨rfl, rfl⟩)
    go_ret
    exact ⟨ret_bool HF.out.symm, (Below.refl _ _).alloc (Nat.le_refl _) _⟩
  · have HF : Hid (fieldsB nd = nd.s.toList.isEmpty) := by show _ = _; rw [fieldsB, if_neg h]
    have hq : (nd.k == 5) = false := beq_eq_false_iff_ne.2 h
    clear h
    go_enter Tryz.func235, Tryz.ntmps235
    go_wp2_with fail
    go_ret
    exact ⟨ret_bool HF.out.symm, (Below.refl _ _).alloc (Nat.le_refl _) _⟩

set_option maxHeartbeats 1000000 in
theorem equal_any (v1 v2 : Value) (ks1 ks2 : List Int) (w : World) (h1 : IntsAt w v1 ks1) (h2 : IntsAt w v2 ks2) :
    Calls Tryz.prog 213 #[v1, v2] w fun e w' => e = .returned (.bool (decide (ks1 = ks2))) ∧ ∃ n, w' = w.drewN n := by
  obtain ⟨a1, cap1, rfl, hl1, hm1, hc1⟩ := h1
  obtain ⟨a2, cap2, rfl, hl2, hm2, hc2⟩ := h2
  unfold maxLen at hm1 hm2
  by_cases hlen : ks1.length = ks2.length
  · have H1 : Hid (0 < ks1.length → ∃ b off, a1 = some ⟨b, off, none⟩ ∧ ∀ j (h : j < ks1.length), w.cell? ⟨b, off + j, none⟩ = some (.int .i64 ks1[j])) := hc1
    have H2 : Hid (0 < ks2.length → ∃ b off, a2 = some ⟨b, off, none⟩ ∧ ∀ j (h : j < ks2.length), w.cell? ⟨b, off + j, none⟩ = some (.int .i64 ks2[j])) := hc2
    have hq : ((ks1.length : Int) != (ks2.length : Int)) = false := by simp [hlen]
    have HL : Hid (ks1.length = ks2.length) := hlen
    have hle : ks1.length ≤ ks2.length := by omega
    clear hc1 hc2 hlen
    go_enter Tryz.func213, Tryz.ntmps213
    go_wp2_with fail
    go_loopw [13] (fun i wr => ∃ (k : Nat) (n : Nat), k ≤ ks1.length ∧ i = .int .i64 k ∧ wr = w.drewN n ∧ Hid (∀ j (h : j < ks1.length) (h2 : j < ks2.length), j < k → ks1[j] = ks2[j])) (fun i _ => ks1.length - (intOf i).toNat)
    case atStart => exact ⟨0, 0, by omega, rfl, rfl, fun j _ _ h => by omega⟩
    case round =>
      obtain ⟨k, n, hk, rfl, rfl, HA⟩ := hrel
      by_cases hlt : k < ks1.length
      · obtain ⟨b1, o1, rfl, c1⟩ := H1.out (by omega)
        obtain ⟨b2, o2, rfl, c2⟩ := H2.out (by omega)
        have d1 := c1 k hlt
        have d2 := c2 k (by omega)
        have hlt' : (k : Int) < ks1.length := by omega
        have hlt2 : (k : Int) < ks2.length := by omega
        by_cases he : ks1[k] = ks2[k]'(by omega)
        · have hne : (ks1[k] != ks2[k]'(by omega)) = false := by simp [he]
          have HN : Hid (∀ j (h : j < ks1.length) (h2 : j < ks2.length), j < k + 1 → ks1[j] = ks2[j]) := by
            intro j h h2 hj
            by_cases e : j = k
            · subst e; exact he
            · exact HA.out j h h2 (by omega)
          clear c1 c2 H1 H2 he
          go_wp2_with fail
          go_region
          go_wp2_with fail
          go_roundw
          case rel => exact ⟨k + 1, _, by omega, by go_num, rfl, HN⟩
          case measure => simp [intOf]; omega
        · have hne : (ks1[k] != ks2[k]'(by omega)) = true := by simp [he]
          have HN : Hid (decide (ks1 = ks2) = false) := by
            show _ = false
            rw [decide_eq_false_iff_not]; intro e; apply he; subst e; rfl
          clear c1 c2 H1 H2 he
          go_wp2_with fail
          go_region
          go_wp2_with fail
          go_ret
          exact ⟨ret_bool HN.out.symm, _, rfl⟩
      · have HN : Hid (decide (ks1 = ks2) = true) := by
          show _ = true
          rw [decide_eq_true_eq]
          apply List.ext_getElem HL.out
          intro j h h2
          exact HA.out j h h2 (by omega)
        go_wp2_with fail
        go_ret
        exact ⟨ret_bool HN.out.symm, n, rfl⟩
  · have hq : ((ks1.length : Int) != (ks2.length : Int)) = true := by
      rw [bne_iff_ne]; omega
    have HN : Hid (decide (ks1 = ks2) = false) := by
      show _ = false
      rw [decide_eq_false_iff_not]; intro e; apply hlen; rw [e]
    clear hc1 hc2 hlen
    go_enter Tryz.func213, Tryz.ntmps213
    go_wp2_with fail
    go_ret
    exact ⟨ret_bool HN.out.symm, 0, rfl⟩
end Go.Proofs.YtpmpooekpeocdaaGreat

/- What the searches for a text in a row of texts answer (slices.Index, slices.Contains; the specification's l1At, l1In). -/
namespace Go.Proofs.YtpmpooekpeocdaaGreat
open Go.ChangeShapes Go.WideShapes Go.ChangeAt Go.RowKit

def StrsAt (w : World) (v : Value) (ss : List ByteArray) : Prop :=
  ∃ a cap, v = .slice a ss.length cap ∧ ss.length ≤ cap ∧ cap ≤ maxLen ∧
    (0 < ss.length → ∃ b off, a = some ⟨b, off, none⟩ ∧ ∀ j (h : j < ss.length), w.cell? ⟨b, off + j, none⟩ = some (.string ss[j]))
theorem StrsAt.keep {w w' : World} (hb : Below w.heap.size w w') {v : Value} {ss : List ByteArray} (h : StrsAt w v ss) : StrsAt w' v ss := by
  obtain ⟨a, cap, hv, h1, h2, h3⟩ := h
  refine ⟨a, cap, hv, h1, h2, fun h0 => ?_⟩
  obtain ⟨b, off, ha, hc⟩ := h3 h0
  exact ⟨b, off, ha, fun j h => keep_cell hb (hc j h)⟩

set_option maxHeartbeats 1000000 in
theorem index_any (v : Value) (ss : List ByteArray) (s : ByteArray) (w : World) (h : StrsAt w v ss) :
    Calls Tryz.prog 157 #[v, .string s] w fun e w' => e = .returned (.int .i64 (atS ss s)) ∧ w' = w := by
  obtain ⟨a, cap, rfl, hl, hm, hc⟩ := h
  unfold maxLen at hm
  have H : Hid (0 < ss.length → ∃ b off, a = some ⟨b, off, none⟩ ∧ ∀ j (h : j < ss.length), w.cell? ⟨b, off + j, none⟩ = some (.string ss[j])) := hc
  clear hc
  go_enter Tryz.func157, Tryz.ntmps157
  go_wp2_with fail
  go_loop [8] (fun i => ∃ k : Nat, k ≤ ss.length ∧ i = .int .i64 k ∧ Hid (∀ j (_ : j < ss.length), j < k → ss[j] ≠ s)) (fun i => ss.length - (intOf i).toNat)
  case atStart => exact ⟨0, by omega, rfl, fun j _ h => by omega⟩
  case round =>
    obtain ⟨k, hk, rfl, HA⟩ := hrel
    by_cases hlt : k < ss.length
    · obtain ⟨b, off, rfl, hc⟩ := H.out (by omega)
      have d := hc k hlt
      by_cases he : ss[k] = s
      · have hq : (s.toList == ss[k].toList) = true := by rw [beq_bytes]; simp [he]
        have HF : Hid (atS ss s = k) := atS_found ss s k hlt he (fun j hj => HA.out j (by omega) hj)
        clear hc H he
        go_wp2_with fail
        go_ret
        exact ⟨ret_int HF.out.symm, rfl⟩
      · have hq : (s.toList == ss[k].toList) = false := by rw [beq_bytes]; simp; exact fun e => he e.symm
        have HN : Hid (∀ j (_ : j < ss.length), j < k + 1 → ss[j] ≠ s) := by
          intro j h hj
          by_cases e : j = k
          · subst e; exact he
          · exact HA.out j h (by omega)
        clear hc H he
        go_wp2_with fail
        go_round
        case rel => exact ⟨k + 1, by omega, by go_num, HN⟩
        case measure => simp [intOf]; omega
    · have HF : Hid (atS ss s = -1) := atS_none ss s (fun j hj => HA.out j hj (by omega))
      go_wp2_with fail
      go_ret
      exact ⟨ret_int HF.out.symm, rfl⟩

set_option maxHeartbeats 1000000 in
theorem l1At_any (v : Value) (ss : List ByteArray) (s : ByteArray) (w : World) (h : StrsAt w v ss) :
    Calls Tryz.prog 108 #[v, .string s] w fun e w' => e = .returned (.int .i64 (atS ss s)) ∧ w' = w := by
  obtain ⟨a, cap, rfl, hl, hm, hc⟩ := h
  unfold maxLen at hm
  have H : Hid (0 < ss.length → ∃ b off, a = some ⟨b, off, none⟩ ∧ ∀ j (h : j < ss.length), w.cell? ⟨b, off + j, none⟩ = some (.string ss[j])) := hc
  clear hc
  go_enter Tryz.func108, Tryz.ntmps108
  go_wp2_with fail
  go_loop [5] (fun i => ∃ k : Nat, k ≤ ss.length ∧ i = .int .i64 k ∧ Hid (∀ j (_ : j < ss.length), j < k → ss[j] ≠ s)) (fun i => ss.length - (intOf i).toNat)
  case atStart => exact ⟨0, by omega, rfl, fun j _ h => by omega⟩
  case round =>
    obtain ⟨k, hk, rfl, HA⟩ := hrel
    by_cases hlt : k < ss.length
    · obtain ⟨b, off, rfl, hc⟩ := H.out (by omega)
      have d := hc k hlt
      by_cases he : ss[k] = s
      · have hq : (ss[k].toList == s.toList) = true := by rw [beq_bytes]; simp [he]
        have HF : Hid (atS ss s = k) := atS_found ss s k hlt he (fun j hj => HA.out j (by omega) hj)
        clear hc H he
        go_wp2_with fail
        go_ret
        exact ⟨ret_int HF.out.symm, rfl⟩
      · have hq : (ss[k].toList == s.toList) = false := by rw [beq_bytes]; simp [he]
        have HN : Hid (∀ j (_ : j < ss.length), j < k + 1 → ss[j] ≠ s) := by
          intro j h hj
          by_cases e : j = k
          · subst e; exact he
          · exact HA.out j h (by omega)
        clear hc H he
        go_wp2_with fail
        go_round
        case rel => exact ⟨k + 1, by omega, by go_num, HN⟩
        case measure => simp [intOf]; omega
    · have HF : Hid (atS ss s = -1) := atS_none ss s (fun j hj => HA.out j hj (by omega))
      go_wp2_with fail
      go_ret
      exact ⟨ret_int HF.out.symm, rfl⟩

set_option maxHeartbeats 400000 in
theorem contains_any (v : Value) (ss : List ByteArray) (s : ByteArray) (w : World) (h : StrsAt w v ss) :
    Calls Tryz.prog 117 #[v, .string s] w fun e w' => e = .returned (.bool (hasB ss s)) ∧ w' = w := by
  rw [← atS_mem]
  have H : Hid (StrsAt w v ss) := h
  obtain ⟨a, cap, rfl, _, _, _⟩ := h
  go_enter Tryz.func117, Tryz.ntmps117
  go_wp2_with (go_at_call 157; refine (index_any _ ss _ _ H.out).mono ?_; rintro e w' ⟨rfl, rfl⟩)
  go_ret
  exact ⟨rfl, rfl⟩
set_option maxHeartbeats 400000 in
theorem l1In_any (v : Value) (ss : List ByteArray) (s : ByteArray) (w : World) (h : StrsAt w v ss) :
    Calls Tryz.prog 76 #[v, .string s] w fun e w' => e = .returned (.bool (hasB ss s)) ∧ w' = w := by
  rw [← atS_mem]
  have H : Hid (StrsAt w v ss) := h
  obtain ⟨a, cap, rfl, _, _, _⟩ := h
  go_enter Tryz.func76, Tryz.ntmps76
  go_wp2_with (go_at_call 108; refine (l1At_any _ ss _ _ H.out).mono ?_; rintro e w' ⟨rfl, rfl⟩)
  go_ret
  exact ⟨rfl, rfl⟩
end Go.Proofs.YtpmpooekpeocdaaGreat
