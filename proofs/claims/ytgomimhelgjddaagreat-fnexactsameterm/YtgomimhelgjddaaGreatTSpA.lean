/- How a term lies in memory: a row of nodes, each three numbers, a text, a row of levels and a row of numbers; what was there stays so where nothing below is written; what is counted of a term. -/
import Derived.Test.YtgomimhelgjddaaGreatTo
import Derived.Test.YtgomimhelgjddaaGreatPutP
import Derived.Test.YtgomimhelgjddaaGreatTxD
namespace Go.Proofs.YtgomimhelgjddaaGreat
open Go.ChangeShapes Go.WideShapes Go.ChangeAt Go.RowKit

/-- A node: its kind, its number, its mode, its text, its levels, its kids. -/
structure Td where
  k : Int
  n : Int
  m : Int
  s : ByteArray
  lv : List (List Nd)
  kids : List Int

def LevsAt (w : World) (v : Value) (ls : List (List Nd)) : Prop :=
  ∃ a cap, v = .slice a ls.length cap ∧ ls.length ≤ cap ∧ cap ≤ maxLen ∧
    (0 < ls.length → ∃ b off, a = some ⟨b, off, none⟩ ∧ ∀ i (h : i < ls.length), ∃ u, w.cell? ⟨b, off + i, none⟩ = some u ∧ NodesAt w u ls[i])
def TNodeAt (w : World) (b o : Nat) (td : Td) : Prop :=
  w.cell? ⟨b, o, none⟩ = some (.int .i64 td.k) ∧ w.cell? ⟨b, o + 1, none⟩ = some (.int .i64 td.n) ∧ w.cell? ⟨b, o + 2, none⟩ = some (.int .i64 td.m) ∧ w.cell? ⟨b, o + 3, none⟩ = some (.string td.s) ∧
    ∃ lv, w.cell? ⟨b, o + 4, none⟩ = some lv ∧ LevsAt w lv td.lv ∧ ∃ kv, w.cell? ⟨b, o + 5, none⟩ = some kv ∧ IntsAt w kv td.kids
def TNodesAt (w : World) (v : Value) (ts : List Td) : Prop :=
  ∃ a cap, v = .slice a ts.length cap ∧ ts.length ≤ cap ∧ cap ≤ maxLen ∧
    (0 < ts.length → ∃ b off, a = some ⟨b, off, none⟩ ∧ ∀ i (h : i < ts.length), TNodeAt w b (off + i * 6) ts[i])
/-- No text in it is too long for a string. -/
def LvLens (l : List Nd) : Prop := ∀ nd ∈ l, nd.s.size ≤ maxLen
def TLens (td : Td) : Prop := td.s.size ≤ maxLen ∧ ∀ l ∈ td.lv, LvLens l

theorem LevsAt.keep {w w' : World} (hb : Below w.heap.size w w') {v : Value} {ls : List (List Nd)} (h : LevsAt w v ls) : LevsAt w' v ls := by
  obtain ⟨a, cap, hv, h1, h2, h3⟩ := h
  refine ⟨a, cap, hv, h1, h2, fun h0 => ?_⟩
  obtain ⟨b, off, ha, hc⟩ := h3 h0
  refine ⟨b, off, ha, fun i h => ?_⟩
  obtain ⟨u, hu, hn⟩ := hc i h
  exact ⟨u, keep_cell hb hu, hn.keep hb⟩
theorem TNodeAt.keep {w w' : World} (hb : Below w.heap.size w w') {b o : Nat} {td : Td} (h : TNodeAt w b o td) : TNodeAt w' b o td := by
  obtain ⟨h1, h2, h3, h4, lv, h5, h6, kv, h7, h8⟩ := h
  exact ⟨keep_cell hb h1, keep_cell hb h2, keep_cell hb h3, keep_cell hb h4, lv, keep_cell hb h5, h6.keep hb, kv, keep_cell hb h7, h8.keep hb⟩
theorem TNodesAt.keep {w w' : World} (hb : Below w.heap.size w w') {v : Value} {ts : List Td} (h : TNodesAt w v ts) : TNodesAt w' v ts := by
  obtain ⟨a, cap, hv, h1, h2, h3⟩ := h
  refine ⟨a, cap, hv, h1, h2, fun h0 => ?_⟩
  obtain ⟨b, off, ha, hc⟩ := h3 h0
  exact ⟨b, off, ha, fun i h => (hc i h).keep hb⟩

/-- A sum over a list. -/
def sumL {α : Type} (f : α → Nat) : List α → Nat
  | [] => 0
  | x :: l => f x + sumL f l
theorem sumL_append {α : Type} (f : α → Nat) (a b : List α) : sumL f (a ++ b) = sumL f a + sumL f b := by
  induction a with
  | nil => simp [sumL]
  | cons x a ih => simp [sumL, ih]; omega
theorem sumL_snoc {α : Type} (f : α → Nat) (l : List α) (i : Nat) (h : i < l.length) : sumL f (l.take (i + 1)) = sumL f (l.take i) + f l[i] := by
  rw [List.take_succ_eq_append_getElem h, sumL_append]; simp [sumL]
theorem sumL_le {α : Type} (f : α → Nat) (l : List α) (i : Nat) : sumL f (l.take i) ≤ sumL f l := by
  conv => rhs; rw [← List.take_append_drop i l, sumL_append]
  omega
theorem sumL_mem {α : Type} (f : α → Nat) {l : List α} {x : α} (h : x ∈ l) : f x ≤ sumL f l := by
  induction l with
  | nil => cases h
  | cons y l ih =>
    simp only [sumL]
    rcases List.mem_cons.1 h with rfl | h2
    · omega
    · have := ih h2; omega
def lvSize (l : List Nd) : Nat := l.length + nsSum l
def tdSize (td : Td) : Nat := td.s.size + (td.lv.length + sumL lvSize td.lv) + td.kids.length
def tmSize (ts : List Td) : Nat := ts.length + sumL tdSize ts
end Go.Proofs.YtgomimhelgjddaaGreat

/- What a valid term is, as a plain function of its nodes. No program is named here. -/
namespace Go.Proofs.YtgomimhelgjddaaGreat

def tkidsN (k : Int) : Int := if k = 1 ∨ k = 2 ∨ k = 3 ∨ k = 9 then 0 else if k = 8 then 1 else if k = 4 ∨ k = 5 ∨ k = 6 then 2 else if k = 7 then 3 else -1
theorem tkidsN_cases (k : Int) : tkidsN k = -1 ∨ tkidsN k = 0 ∨ tkidsN k = 1 ∨ tkidsN k = 2 ∨ tkidsN k = 3 := by
  unfold tkidsN; split
  · simp
  · split
    · simp
    · split
      · simp
      · split <;> simp
theorem kind_cases (k : Int) : k = 1 ∨ k = 2 ∨ k = 3 ∨ k = 4 ∨ k = 5 ∨ k = 6 ∨ k = 7 ∨ k = 8 ∨ k = 9 ∨ (k < 1 ∨ 9 < k) := by omega
theorem tkidsN_neg (k : Int) (h : k < 1 ∨ 9 < k) : tkidsN k = -1 := by
  unfold tkidsN
  rw [if_neg (by omega), if_neg (by omega), if_neg (by omega), if_neg (by omega)]
def gN (k : Int) : Int := if k = 1 ∨ k = 8 then 20000 else if k = 9 then 1000000 else 0
def gM (k : Int) : Int := if k = 5 ∨ k = 6 then 2 else 0
def bindsB (k : Int) : Bool := decide (k = 5) || decide (k = 6) || decide (k = 7)
def tnameB (nameB : ByteArray → Bool) (td : Td) : Bool := if td.k = 3 ∨ td.k = 8 then nameB td.s else if bindsB td.k = true then shortB td.s else td.s.toList.isEmpty
def leastL (k : Int) : Int := if k = 2 then 1 else 0
def mostL (k : Int) : Int := if k = 2 then 1 else if k = 3 then 6 else 0
def tlevB (td : Td) : Bool := decide (leastL td.k ≤ td.lv.length) && decide ((td.lv.length : Int) ≤ mostL td.k) && td.lv.all lvlB
def numB (td : Td) : Bool := decide (0 ≤ td.n) && decide (td.n ≤ gN td.k)
def modeB (td : Td) : Bool := decide (0 ≤ td.m) && decide (td.m ≤ gM td.k)
def tfieldsB (nameB : ByteArray → Bool) (td : Td) : Bool := numB td && modeB td && tnameB nameB td && tlevB td

section
variable (fieldsB : Td → Bool)
/-- One node more: the roots of the stretches that have no parent yet. -/
def tstep (st : List Int) (i : Nat) (td : Td) : Option (List Int) :=
  if tkidsN td.k < 0 ∨ (st.length : Int) < tkidsN td.k ∨ fieldsB td = false ∨ td.kids ≠ st.drop (st.length - (tkidsN td.k).toNat) then none
  else some (st.take (st.length - (tkidsN td.k).toNat) ++ [(i : Int)])
def trun (ts : List Td) : Nat → Option (List Int)
  | 0 => some []
  | i + 1 => match trun ts i, ts[i]? with
    | some st, some td => tstep fieldsB st i td
    | _, _ => none
theorem trun_succ (ts : List Td) (i : Nat) (h : i < ts.length) (st : List Int) (hr : trun fieldsB ts i = some st) : trun fieldsB ts (i + 1) = tstep fieldsB st i ts[i] := by
  simp [trun, hr, h]
theorem trun_none (ts : List Td) (i j : Nat) (hij : i ≤ j) (h : trun fieldsB ts i = none) : trun fieldsB ts j = none := by
  induction j with
  | zero => have : i = 0 := by omega
            subst this; simp [trun] at h
  | succ j ih =>
    by_cases e : i = j + 1
    · subst e; exact h
    · simp [trun, ih (by omega)]
def termB' (ts : List Td) : Bool := decide (ts.length ≤ 20000) && (match trun fieldsB ts ts.length with | some st => decide (st.length = 1) | none => false)
theorem tstep_none {st : List Int} {i : Nat} {td : Td} (h : tkidsN td.k < 0 ∨ (st.length : Int) < tkidsN td.k ∨ fieldsB td = false ∨ td.kids ≠ st.drop (st.length - (tkidsN td.k).toNat)) : tstep fieldsB st i td = none := by rw [tstep, if_pos h]
theorem tstep_some {st : List Int} {i : Nat} {td : Td} (h1 : 0 ≤ tkidsN td.k) (h2 : tkidsN td.k ≤ st.length) (h3 : fieldsB td = true) (h4 : td.kids = st.drop (st.length - (tkidsN td.k).toNat)) :
    tstep fieldsB st i td = some (st.take (st.length - (tkidsN td.k).toNat) ++ [(i : Int)]) := by
  rw [tstep, if_neg]
  rintro (h | h | h | h)
  · omega
  · omega
  · rw [h3] at h; cases h
  · exact h h4
theorem term_false (ts : List Td) (i : Nat) (hi : i < ts.length) (st : List Int) (hr : trun fieldsB ts i = some st) (hs : tstep fieldsB st i ts[i] = none) : termB' fieldsB ts = false := by
  have h1 := trun_succ fieldsB ts i hi st hr
  rw [hs] at h1
  have h2 := trun_none fieldsB ts (i + 1) ts.length (by omega) h1
  simp [termB', h2]
end
end Go.Proofs.YtgomimhelgjddaaGreat

/- What the specification's small functions on terms answer: kids of a kind, binders, none, too great; and l1Trees, which reads levels. -/
namespace Go.Proofs.YtgomimhelgjddaaGreat
open Go.ChangeShapes Go.WideShapes Go.ChangeAt Go.RowKit

set_option maxHeartbeats 1000000 in
theorem l3KidsOf_any (k : Int) (w : World) : Calls Tryz.prog 44 #[.int .i64 k] w fun e w' => e = .returned (.int .i64 (tkidsN k)) ∧ Below w.heap.size w w' := by
  rcases kind_cases k with rfl | rfl | rfl | rfl | rfl | rfl | rfl | rfl | rfl | h
  · go_enter Tryz.func44, Tryz.ntmps44; go_wp2; go_ret; exact ⟨rfl, bel_alloc (Below.refl _ _) _⟩
  · go_enter Tryz.func44, Tryz.ntmps44; go_wp2; go_ret; exact ⟨rfl, bel_alloc (Below.refl _ _) _⟩
  · go_enter Tryz.func44, Tryz.ntmps44; go_wp2; go_ret; exact ⟨rfl, bel_alloc (Below.refl _ _) _⟩
  · go_enter Tryz.func44, Tryz.ntmps44; go_wp2; go_ret; exact ⟨rfl, bel_alloc (Below.refl _ _) _⟩
  · go_enter Tryz.func44, Tryz.ntmps44; go_wp2; go_ret; exact ⟨rfl, bel_alloc (Below.refl _ _) _⟩
  · go_enter Tryz.func44, Tryz.ntmps44; go_wp2; go_ret; exact ⟨rfl, bel_alloc (Below.refl _ _) _⟩
  · go_enter Tryz.func44, Tryz.ntmps44; go_wp2; go_ret; exact ⟨rfl, bel_alloc (Below.refl _ _) _⟩
  · go_enter Tryz.func44, Tryz.ntmps44; go_wp2; go_ret; exact ⟨rfl, bel_alloc (Below.refl _ _) _⟩
  · go_enter Tryz.func44, Tryz.ntmps44; go_wp2; go_ret; exact ⟨rfl, bel_alloc (Below.refl _ _) _⟩
  have HK := hide (tkidsN_neg k h)
  by_cases h1 : k < 1
  · have d1 : decide (k < 1) = true := by simp [h1]
    go_enter Tryz.func44, Tryz.ntmps44; go_wp2_with fail; go_ret; exact ⟨ret_int HK.out.symm, Below.refl _ _⟩
  · have d1 : decide (k < 1) = false := by simp; omega
    have d2 : decide (9 < k) = true := by simp; omega
    go_enter Tryz.func44, Tryz.ntmps44; go_wp2_with fail; go_ret; exact ⟨ret_int HK.out.symm, Below.refl _ _⟩
set_option maxHeartbeats 1000000 in
theorem l3Binds_any (k : Int) (w : World) : Calls Tryz.prog 60 #[.int .i64 k] w fun e w' => e = .returned (.bool (bindsB k)) ∧ w' = w := by
  have HB : Hid (bindsB k = (decide (k = 5) || decide (k = 6) || decide (k = 7))) := rfl
  rw [HB.out]
  by_cases h5 : k = 5
  · subst h5; go_enter Tryz.func60, Tryz.ntmps60; go_wp2; go_ret; exact ⟨rfl, rfl⟩
  have e5 : (k == 5) = false := beq_eq_false_iff_ne.2 h5
  by_cases h6 : k = 6
  · subst h6; go_enter Tryz.func60, Tryz.ntmps60; go_wp2; go_ret; exact ⟨rfl, rfl⟩
  have e6 : (k == 6) = false := beq_eq_false_iff_ne.2 h6
  by_cases h7 : k = 7
  · subst h7; go_enter Tryz.func60, Tryz.ntmps60; go_wp2; go_ret; exact ⟨rfl, rfl⟩
  have e7 : (k == 7) = false := beq_eq_false_iff_ne.2 h7
  have HN : Hid ((decide (k = 5) || decide (k = 6) || decide (k = 7)) = false) := by show _ = _; simp [h5, h6, h7]
  rw [HN.out]
  clear h5 h6 h7
  go_enter Tryz.func60, Tryz.ntmps60; go_wp2; go_ret; exact ⟨rfl, rfl⟩
set_option maxHeartbeats 400000 in
theorem tnone_some (a : Addr) (w : World) : Calls Tryz.prog 24 #[.pointer (some a)] w fun e w' => e = .returned (.bool false) ∧ w' = w := by
  go_enter Tryz.func24, Tryz.ntmps24
  go_wp2
  go_ret
  exact ⟨rfl, rfl⟩
set_option maxHeartbeats 400000 in
theorem tnone_none (w : World) : Calls Tryz.prog 24 #[.pointer none] w fun e w' => e = .returned (.bool true) ∧ w' = w := by
  go_enter Tryz.func24, Tryz.ntmps24
  go_wp2
  go_ret
  exact ⟨rfl, rfl⟩
set_option maxHeartbeats 400000 in
theorem l3Great_any (g : Nat) (sz : Int) (w : World) (h : w.cell? ⟨g, 6, none⟩ = some (.int .i64 sz)) : Calls Tryz.prog 47 #[.pointer (some ⟨g, 0, none⟩)] w fun e w' => e = .returned (.bool (decide (20000 < sz))) ∧ w' = w := by
  go_enter Tryz.func47, Tryz.ntmps47
  go_wp2_with fail
  go_ret
  exact ⟨rfl, rfl⟩

/-- A row of pointers. -/
def PtrRow (w : World) (v : Value) (ps : List Nat) : Prop :=
  ∃ a cap, v = .slice a ps.length cap ∧ ps.length ≤ cap ∧ cap ≤ maxLen ∧ (0 < ps.length → ∃ b off, a = some ⟨b, off, none⟩ ∧ ∀ j (h : j < ps.length), w.cell? ⟨b, off + j, none⟩ = some (ptrV ps[j]))
theorem PtrRow.keep {w w' : World} (hb : Below w.heap.size w w') {v : Value} {ps : List Nat} (h : PtrRow w v ps) : PtrRow w' v ps := by
  obtain ⟨a, cap, hv, h1, h2, h3⟩ := h
  refine ⟨a, cap, hv, h1, h2, fun h0 => ?_⟩
  obtain ⟨b, off, ha, hc⟩ := h3 h0
  exact ⟨b, off, ha, fun j h => keep_cell hb (hc j h)⟩
theorem PtrRow.own {w : World} {base : Nat} {e : TypeId} {v : Value} {n : Nat} {ps : List Nat} (h : w.ownsRow base e 1 v n (ps.map ptrV)) (hn : n = ps.length) : PtrRow w v ps := by
  subst hn
  rcases h.2 with ⟨rfl, h0⟩ | ⟨g, cap, cur, rfl, _, hg, hnc, hcm, hcs, htake⟩
  · exact ⟨none, 0, by rw [h0], by omega, by unfold maxLen; omega, fun h => by omega⟩
  · refine ⟨_, _, rfl, hnc, hcm, fun _ => ⟨g, 0, rfl, fun j hj => ?_⟩⟩
    rw [Nat.zero_add, h.cellAt j (by omega), List.getElem?_map, List.getElem?_eq_getElem hj]; rfl
/-- Levels as trees, each one that fits. -/
def LevTrees (w : World) (ps : List Nat) (us : List Tr) : Prop := TreesAt w ps us ∧ ∀ u ∈ us, fitsB u = true
theorem TreesAt.keep {w w' : World} (hb : Below w.heap.size w w') {ps : List Nat} {us : List Tr} (h : TreesAt w ps us) : TreesAt w' ps us :=
  ⟨h.1, fun j h1 h2 => ((h.2 j h1 h2).keep hb).mono hb.size⟩
theorem LevTrees.keep {w w' : World} (hb : Below w.heap.size w w') {ps : List Nat} {us : List Tr} (h : LevTrees w ps us) : LevTrees w' ps us := ⟨h.1.keep hb, h.2⟩
end Go.Proofs.YtgomimhelgjddaaGreat
