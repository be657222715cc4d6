/- What a valid level is, as a plain function of its nodes, and the facts on it that the walks want. No program is named here. -/
import Derived.Test.YtcagcfhnbphggaaGreatDoorMem
import Derived.Test.YtcagcfhnbphggaaGreatDoorTMem
namespace Go.Proofs.YtcagcfhnbphggaaGreatDoor

def kidsN (k : Int) : Int := if k = 1 ∨ k = 5 then 0 else if k = 2 then 1 else if k = 3 ∨ k = 4 then 2 else -1
theorem kidsN_cases (k : Int) : kidsN k = -1 ∨ kidsN k = 0 ∨ kidsN k = 1 ∨ kidsN k = 2 := by
  unfold kidsN; split
  · simp
  · split
    · simp
    · split <;> simp
theorem kidsN_neg (k : Int) : kidsN k = -1 ↔ (k < 1 ∨ 5 < k) := by
  unfold kidsN; split
  · simp; omega
  · split
    · simp; omega
    · split
      · simp; omega
      · simp; omega

def paramB (s : ByteArray) : Bool := shortB s && !(s.toList == [109, 97, 120]) && !(s.toList == [105, 109, 97, 120])
def fieldsB (nd : Nd) : Bool := if nd.k = 5 then paramB nd.s else nd.s.toList.isEmpty

/-- One node more: the roots of the stretches that have no parent yet. -/
def stepN (st : List Int) (i : Nat) (nd : Nd) : Option (List Int) :=
  if kidsN nd.k < 0 ∨ (st.length : Int) < kidsN nd.k ∨ fieldsB nd = false ∨ nd.kids ≠ st.drop (st.length - (kidsN nd.k).toNat) then none
  else some (st.take (st.length - (kidsN nd.k).toNat) ++ [(i : Int)])
def runTo (ns : List Nd) : Nat → Option (List Int)
  | 0 => some []
  | i + 1 => match runTo ns i, ns[i]? with
    | some st, some nd => stepN st i nd
    | _, _ => none
theorem runTo_succ (ns : List Nd) (i : Nat) (h : i < ns.length) (st : List Int) (hr : runTo ns i = some st) : runTo ns (i + 1) = stepN st i ns[i] := by
  simp [runTo, hr, h]
theorem runTo_none (ns : List Nd) (i j : Nat) (hij : i ≤ j) (h : runTo ns i = none) : runTo ns j = none := by
  induction j with
  | zero => have : i = 0 := by omega
            subst this; simp [runTo] at h
  | succ j ih =>
    by_cases e : i = j + 1
    · subst e; exact h
    · simp [runTo, ih (by omega)]
/-- The parameters, each once. -/
def hasB (l : List ByteArray) (s : ByteArray) : Bool := l.any (fun x => decide (x = s))
def addName (l : List ByteArray) (nd : Nd) : List ByteArray := if nd.k = 5 ∧ hasB l nd.s = false then l ++ [nd.s] else l
def namesOf (ns : List Nd) : List ByteArray := ns.foldl addName []
def lvlB (ns : List Nd) : Bool := decide (1 ≤ ns.length) && decide (ns.length ≤ 64) && (match runTo ns ns.length with | some st => decide (st.length = 1) && decide ((namesOf ns).length ≤ 6) | none => false)

theorem names_snoc (ns : List Nd) (i : Nat) (h : i < ns.length) : namesOf (ns.take (i + 1)) = addName (namesOf (ns.take i)) ns[i] := by
  unfold namesOf
  rw [List.take_succ_eq_append_getElem h, List.foldl_append]; rfl
theorem addName_len (l : List ByteArray) (nd : Nd) : l.length ≤ (addName l nd).length := by
  unfold addName; split <;> simp
theorem foldl_len (ns : List Nd) (l : List ByteArray) : l.length ≤ (ns.foldl addName l).length := by
  induction ns generalizing l with
  | nil => simp
  | cons x ns ih => exact Nat.le_trans (addName_len l x) (ih _)
theorem names_le (ns : List Nd) (i : Nat) : (namesOf (ns.take i)).length ≤ (namesOf ns).length := by
  unfold namesOf
  conv => rhs; rw [← List.take_append_drop i ns, List.foldl_append]
  exact foldl_len _ _

theorem beq_bytes (a b : ByteArray) : (a.toList == b.toList) = decide (a = b) := by
  rw [Bool.eq_iff_iff]
  simp only [beq_iff_eq, decide_eq_true_eq, ByteArray.toList_eq]
  constructor
  · intro h; cases a; cases b; simp at h; simp [h]
  · intro h; rw [h]

/-- The first place of a text in a list, -1 for none. -/
def atS (l : List ByteArray) (s : ByteArray) : Int := match l.findIdx? (fun x => decide (x = s)) with | some i => i | none => -1
theorem atS_found (l : List ByteArray) (s : ByteArray) (k : Nat) (h : k < l.length) (he : l[k] = s) (hn : ∀ j (_ : j < k), l[j] ≠ s) : atS l s = k := by
  unfold atS
  have : l.findIdx? (fun x => decide (x = s)) = some k := by
    rw [List.findIdx?_eq_some_iff_getElem]
    exact ⟨h, by simp [he], fun j hj => by simp [hn j hj]⟩
  rw [this]
theorem atS_none (l : List ByteArray) (s : ByteArray) (hn : ∀ j (h : j < l.length), l[j] ≠ s) : atS l s = -1 := by
  unfold atS
  have : l.findIdx? (fun x => decide (x = s)) = none := by
    rw [List.findIdx?_eq_none_iff]
    intro x hx
    obtain ⟨j, hj, rfl⟩ := List.getElem_of_mem hx
    simp [hn j hj]
  rw [this]
theorem atS_mem (l : List ByteArray) (s : ByteArray) : decide (0 ≤ atS l s) = hasB l s := by
  rw [Bool.eq_iff_iff]; simp only [decide_eq_true_eq, hasB, List.any_eq_true]
  unfold atS
  split
  · rename_i i h
    rw [List.findIdx?_eq_some_iff_getElem] at h
    obtain ⟨h1, h2, _⟩ := h
    simp at h2
    exact ⟨fun _ => ⟨l[i], List.getElem_mem h1, h2⟩, fun _ => by omega⟩
  · rename_i h
    rw [List.findIdx?_eq_none_iff] at h
    constructor
    · intro h; omega
    · rintro ⟨x, hx, he⟩; have := h x hx; simp [he] at this
end Go.Proofs.YtcagcfhnbphggaaGreatDoor

/- What a valid term is, as a plain function of its nodes. No program is named here. -/
namespace Go.Proofs.YtcagcfhnbphggaaGreatDoor

def tkidsN (k : Int) : Int := if k = 1 ∨ k = 2 ∨ k = 3 ∨ k = 9 then 0 else if k = 8 then 1 else if k = 4 ∨ k = 5 ∨ k = 6 then 2 else if k = 7 then 3 else -1
theorem tkidsN_cases (k : Int) : tkidsN k = -1 ∨ tkidsN k = 0 ∨ tkidsN k = 1 ∨ tkidsN k = 2 ∨ tkidsN k = 3 := by
  unfold tkidsN; split
  · simp
  · split
    · simp
    · split
      · simp
      · split <;> simp
theorem kind_cases (k : Int) : k = 1 ∨ k = 2 ∨ k = 3 ∨ k = 4 ∨ k = 5 ∨ k = 6 ∨ k = 7 ∨ k = 8 ∨ k = 9 ∨ (k < 1 ∨ 9 < k) := by omega
theorem tkidsN_neg (k : Int) (h : k < 1 ∨ 9 < k) : tkidsN k = -1 := by
  unfold tkidsN
  rw [if_neg (by omega), if_neg (by omega), if_neg (by omega), if_neg (by omega)]
def gN (k : Int) : Int := if k = 1 ∨ k = 8 then 20000 else if k = 9 then 1000000 else 0
def gM (k : Int) : Int := if k = 5 ∨ k = 6 then 2 else 0
def bindsB (k : Int) : Bool := decide (k = 5) || decide (k = 6) || decide (k = 7)
def tnameB (nameB : ByteArray → Bool) (td : Td) : Bool := if td.k = 3 ∨ td.k = 8 then nameB td.s else if bindsB td.k = true then shortB td.s else td.s.toList.isEmpty
def leastL (k : Int) : Int := if k = 2 then 1 else 0
def mostL (k : Int) : Int := if k = 2 then 1 else if k = 3 then 6 else 0
def tlevB (td : Td) : Bool := decide (leastL td.k ≤ td.lv.length) && decide ((td.lv.length : Int) ≤ mostL td.k) && td.lv.all lvlB
def numB (td : Td) : Bool := decide (0 ≤ td.n) && decide (td.n ≤ gN td.k)
def modeB (td : Td) : Bool := decide (0 ≤ td.m) && decide (td.m ≤ gM td.k)
def tfieldsB (nameB : ByteArray → Bool) (td : Td) : Bool := numB td && modeB td && tnameB nameB td && tlevB td

section
variable (fieldsB : Td → Bool)
/-- One node more: the roots of the stretches that have no parent yet. -/
def tstep (st : List Int) (i : Nat) (td : Td) : Option (List Int) :=
  if tkidsN td.k < 0 ∨ (st.length : Int) < tkidsN td.k ∨ fieldsB td = false ∨ td.kids ≠ st.drop (st.length - (tkidsN td.k).toNat) then none
  else some (st.take (st.length - (tkidsN td.k).toNat) ++ [(i : Int)])
def trun (ts : List Td) : Nat → Option (List Int)
  | 0 => some []
  | i + 1 => match trun ts i, ts[i]? with
    | some st, some td => tstep fieldsB st i td
    | _, _ => none
theorem trun_succ (ts : List Td) (i : Nat) (h : i < ts.length) (st : List Int) (hr : trun fieldsB ts i = some st) : trun fieldsB ts (i + 1) = tstep fieldsB st i ts[i] := by
  simp [trun, hr, h]
theorem trun_none (ts : List Td) (i j : Nat) (hij : i ≤ j) (h : trun fieldsB ts i = none) : trun fieldsB ts j = none := by
  induction j with
  | zero => have : i = 0 := by omega
            subst this; simp [trun] at h
  | succ j ih =>
    by_cases e : i = j + 1
    · subst e; exact h
    · simp [trun, ih (by omega)]
def termB' (ts : List Td) : Bool := decide (ts.length ≤ 20000) && (match trun fieldsB ts ts.length with | some st => decide (st.length = 1) | none => false)
theorem tstep_none {st : List Int} {i : Nat} {td : Td} (h : tkidsN td.k < 0 ∨ (st.length : Int) < tkidsN td.k ∨ fieldsB td = false ∨ td.kids ≠ st.drop (st.length - (tkidsN td.k).toNat)) : tstep fieldsB st i td = none := by rw [tstep, if_pos h]
theorem tstep_some {st : List Int} {i : Nat} {td : Td} (h1 : 0 ≤ tkidsN td.k) (h2 : tkidsN td.k ≤ st.length) (h3 : fieldsB td = true) (h4 : td.kids = st.drop (st.length - (tkidsN td.k).toNat)) :
    tstep fieldsB st i td = some (st.take (st.length - (tkidsN td.k).toNat) ++ [(i : Int)]) := by
  rw [tstep, if_neg]
  rintro (h | h | h | h)
  · omega
  · omega
  · rw [h3] at h; cases h
  · exact h h4
theorem term_false (ts : List Td) (i : Nat) (hi : i < ts.length) (st : List Int) (hr : trun fieldsB ts i = some st) (hs : tstep fieldsB st i ts[i] = none) : termB' fieldsB ts = false := by
  have h1 := trun_succ fieldsB ts i hi st hr
  rw [hs] at h1
  have h2 := trun_none fieldsB ts (i + 1) ts.length (by omega) h1
  simp [termB', h2]
end
end Go.Proofs.YtcagcfhnbphggaaGreatDoor

/- What the copying of a level (toLevel and what it calls) answers: a new level with the same nodes; nothing that was there is written. -/
namespace Go.Proofs.YtcagcfhnbphggaaGreatDoor
open Go.ChangeShapes Go.WideShapes Go.ChangeAt Go.RowKit

theorem Tryz.info3 : (Tryz.prog.info? 3).map (fun i => (i.zero, i.size, i.bytes)) = some (some (.int .i64 0), 1, 8) := by kernel_rfl
theorem Tryz.info117 : (Tryz.prog.info? 117).map (fun i => (i.zero, i.size, i.bytes)) = some (some (.agg #[.int .i64 0, .string ⟨#[]⟩, .slice none 0 0]), 3, 48) := by kernel_rfl

theorem cell_set {w : World} {p : Addr} {u : Value} {b o : Nat} (h : b ≠ p.block) : (w.setCell p u).cell? ⟨b, o, none⟩ = w.cell? ⟨b, o, none⟩ :=
  World.cell?_of_block (a := ⟨b, o, none⟩) (Below.heap_setCell w p u b h)
theorem grown_of {w w' : World} (hb : Below w.heap.size w w') : w.grownBy w' none := ⟨hb.os, hb.tape, hb.output, hb.size, fun k hk _ => hb.block k hk⟩
theorem row_keep {w w' : World} (hb : Below w.heap.size w w') {base : Nat} {e : TypeId} {size : Nat} {v : Value} {n : Nat} {xs : List Value} (h : w.ownsRow base e size v n xs) : w'.ownsRow base e size v n xs :=
  h.kept (grown_of hb) (by cases hv : v.ownBlock <;> simp)
theorem bcell {W w1 : World} (hb : Below W.heap.size W w1) : (∀ b o, b < W.heap.size → w1.cell? ⟨b, o, none⟩ = W.cell? ⟨b, o, none⟩) ∧ (∀ b o, b < W.heap.size → w1.frozen? ⟨b, o, none⟩ = W.frozen? ⟨b, o, none⟩) :=
  ⟨fun b o h => hb.cell (p := ⟨b, o, none⟩) h, fun b o h => hb.frozen (p := ⟨b, o, none⟩) h⟩

end Go.Proofs.YtcagcfhnbphggaaGreatDoor
