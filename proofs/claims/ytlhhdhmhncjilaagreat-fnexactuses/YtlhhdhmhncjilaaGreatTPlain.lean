/- What a valid term is, as a plain function of its nodes. No program is named here. -/
import Derived.Test.YtlhhdhmhncjilaaGreatTMem
import Derived.Test.YtlhhdhmhncjilaaGreatPlain
namespace Go.Proofs.YtlhhdhmhncjilaaGreat

def tkidsN (k : Int) : Int := if k = 1 ∨ k = 2 ∨ k = 3 ∨ k = 9 then 0 else if k = 8 then 1 else if k = 4 ∨ k = 5 ∨ k = 6 then 2 else if k = 7 then 3 else -1
theorem tkidsN_cases (k : Int) : tkidsN k = -1 ∨ tkidsN k = 0 ∨ tkidsN k = 1 ∨ tkidsN k = 2 ∨ tkidsN k = 3 := by
  unfold tkidsN; split
  · simp
  · split
    · simp
    · split
      · simp
      · split <;> simp
theorem kind_cases (k : Int) : k = 1 ∨ k = 2 ∨ k = 3 ∨ k = 4 ∨ k = 5 ∨ k = 6 ∨ k = 7 ∨ k = 8 ∨ k = 9 ∨ (k < 1 ∨ 9 < k) := by omega
theorem tkidsN_neg (k : Int) (h : k < 1 ∨ 9 < k) : tkidsN k = -1 := by
  unfold tkidsN
  rw [if_neg (by omega), if_neg (by omega), if_neg (by omega), if_neg (by omega)]
def gN (k : Int) : Int := if k = 1 ∨ k = 8 then 20000 else if k = 9 then 1000000 else 0
def gM (k : Int) : Int := if k = 5 ∨ k = 6 then 2 else 0
def bindsB (k : Int) : Bool := decide (k = 5) || decide (k = 6) || decide (k = 7)
def tnameB (nameB : ByteArray → Bool) (td : Td) : Bool := if td.k = 3 ∨ td.k = 8 then nameB td.s else if bindsB td.k = true then shortB td.s else td.s.toList.isEmpty
def leastL (k : Int) : Int := if k = 2 then 1 else 0
def mostL (k : Int) : Int := if k = 2 then 1 else if k = 3 then 6 else 0
def tlevB (td : Td) : Bool := decide (leastL td.k ≤ td.lv.length) && decide ((td.lv.length : Int) ≤ mostL td.k) && td.lv.all lvlB
def numB (td : Td) : Bool := decide (0 ≤ td.n) && decide (td.n ≤ gN td.k)
def modeB (td : Td) : Bool := decide (0 ≤ td.m) && decide (td.m ≤ gM td.k)
def tfieldsB (nameB : ByteArray → Bool) (td : Td) : Bool := numB td && modeB td && tnameB nameB td && tlevB td

section
variable (fieldsB : Td → Bool)
/-- One node more: the roots of the stretches that have no parent yet. -/
def tstep (st : List Int) (i : Nat) (td : Td) : Option (List Int) :=
  if tkidsN td.k < 0 ∨ (st.length : Int) < tkidsN td.k ∨ fieldsB td = false ∨ td.kids ≠ st.drop (st.length - (tkidsN td.k).toNat) then none
  else some (st.take (st.length - (tkidsN td.k).toNat) ++ [(i : Int)])
def trun (ts : List Td) : Nat → Option (List Int)
  | 0 => some []
  | i + 1 => match trun ts i, ts[i]? with
    | some st, some td => tstep fieldsB st i td
    | _, _ => none
theorem trun_succ (ts : List Td) (i : Nat) (h : i < ts.length) (st : List Int) (hr : trun fieldsB ts i = some st) : trun fieldsB ts (i + 1) = tstep fieldsB st i ts[i] := by
  simp [trun, hr, h]
theorem trun_none (ts : List Td) (i j : Nat) (hij : i ≤ j) (h : trun fieldsB ts i = none) : trun fieldsB ts j = none := by
  induction j with
  | zero => have : i = 0 := by omega
            subst this; simp [trun] at h
  | succ j ih =>
    by_cases e : i = j + 1
    · subst e; exact h
    · simp [trun, ih (by omega)]
def termB' (ts : List Td) : Bool := decide (ts.length ≤ 20000) && (match trun fieldsB ts ts.length with | some st => decide (st.length = 1) | none => false)
theorem tstep_none {st : List Int} {i : Nat} {td : Td} (h : tkidsN td.k < 0 ∨ (st.length : Int) < tkidsN td.k ∨ fieldsB td = false ∨ td.kids ≠ st.drop (st.length - (tkidsN td.k).toNat)) : tstep fieldsB st i td = none := by rw [tstep, if_pos h]
theorem tstep_some {st : List Int} {i : Nat} {td : Td} (h1 : 0 ≤ tkidsN td.k) (h2 : tkidsN td.k ≤ st.length) (h3 : fieldsB td = true) (h4 : td.kids = st.drop (st.length - (tkidsN td.k).toNat)) :
    tstep fieldsB st i td = some (st.take (st.length - (tkidsN td.k).toNat) ++ [(i : Int)]) := by
  rw [tstep, if_neg]
  rintro (h | h | h | h)
  · omega
  · omega
  · rw [h3] at h; cases h
  · exact h h4
theorem term_false (ts : List Td) (i : Nat) (hi : i < ts.length) (st : List Int) (hr : trun fieldsB ts i = some st) (hs : tstep fieldsB st i ts[i] = none) : termB' fieldsB ts = false := by
  have h1 := trun_succ fieldsB ts i hi st hr
  rw [hs] at h1
  have h2 := trun_none fieldsB ts (i + 1) ts.length (by omega) h1
  simp [termB', h2]
end
end Go.Proofs.YtlhhdhmhncjilaaGreat
