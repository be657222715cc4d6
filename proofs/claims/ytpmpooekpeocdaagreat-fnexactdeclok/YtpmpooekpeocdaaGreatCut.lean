/- What a valid term is, as a plain function of its nodes. No program is named here. -/
import Derived.Test.YtpmpooekpeocdaaGreatTMem
import Derived.Test.YtpmpooekpeocdaaGreatPlain
import Derived.Lib.Strings
import Derived.Lib.Bytealg
import Derived.Test.YtpmpooekpeocdaaGreatRows
import Derived.WalkKit
import Derived.ProofKit
import Derived.Lib.Walk
import Derived.Lib.Slices
import Derived.BigCall
import Derived.BigGuard
import Derived.Deep.Draws
import Derived.Laws.Strings3
import Derived.WalkLawsBesides
import Derived.WalkSpells
namespace Go.Proofs.YtpmpooekpeocdaaGreat

def tkidsN (k : Int) : Int := if k = 1 ∨ k = 2 ∨ k = 3 ∨ k = 9 then 0 else if k = 8 then 1 else if k = 4 ∨ k = 5 ∨ k = 6 then 2 else if k = 7 then 3 else -1
theorem tkidsN_cases (k : Int) : tkidsN k = -1 ∨ tkidsN k = 0 ∨ tkidsN k = 1 ∨ tkidsN k = 2 ∨ tkidsN k = 3 := by
  unfold tkidsN; split
  · simp
  · split
    · simp
    · split
      · simp
      · split <;> simp
theorem kind_cases (k : Int) : k = 1 ∨ k = 2 ∨ k = 3 ∨ k = 4 ∨ k = 5 ∨ k = 6 ∨ k = 7 ∨ k = 8 ∨ k = 9 ∨ (k < 1 ∨ 9 < k) := by omega
theorem tkidsN_neg (k : Int) (h : k < 1 ∨ 9 < k) : tkidsN k = -1 := by
  unfold tkidsN
  rw [if_neg (by omega), if_neg (by omega), if_neg (by omega), if_neg (by omega)]
def gN (k : Int) : Int := if k = 1 ∨ k = 8 then 20000 else if k = 9 then 1000000 else 0
def gM (k : Int) : Int := if k = 5 ∨ k = 6 then 2 else 0
def bindsB (k : Int) : Bool := decide (k = 5) || decide (k = 6) || decide (k = 7)
def tnameB (nameB : ByteArray → Bool) (td : Td) : Bool := if td.k = 3 ∨ td.k = 8 then nameB td.s else if bindsB td.k = true then shortB td.s else td.s.toList.isEmpty
def leastL (k : Int) : Int := if k = 2 then 1 else 0
def mostL (k : Int) : Int := if k = 2 then 1 else if k = 3 then 6 else 0
def tlevB (td : Td) : Bool := decide (leastL td.k ≤ td.lv.length) && decide ((td.lv.length : Int) ≤ mostL td.k) && td.lv.all lvlB
def numB (td : Td) : Bool := decide (0 ≤ td.n) && decide (td.n ≤ gN td.k)
def modeB (td : Td) : Bool := decide (0 ≤ td.m) && decide (td.m ≤ gM td.k)
def tfieldsB (nameB : ByteArray → Bool) (td : Td) : Bool := numB td && modeB td && tnameB nameB td && tlevB td

section
variable (fieldsB : Td → Bool)
/-- One node more: the roots of the stretches that have no parent yet. -/
def tstep (st : List Int) (i : Nat) (td : Td) : Option (List Int) :=
  if tkidsN td.k < 0 ∨ (st.length : Int) < tkidsN td.k ∨ fieldsB td = false ∨ td.kids ≠ st.drop (st.length - (tkidsN td.k).toNat) then none
  else some (st.take (st.length - (tkidsN td.k).toNat) ++ [(i : Int)])
def trun (ts : List Td) : Nat → Option (List Int)
  | 0 => some []
  | i + 1 => match trun ts i, ts[i]? with
    | some st, some td => tstep fieldsB st i td
    | _, _ => none
theorem trun_succ (ts : List Td) (i : Nat) (h : i < ts.length) (st : List Int) (hr : trun fieldsB ts i = some st) : trun fieldsB ts (i + 1) = tstep fieldsB st i ts[i] := by
  simp [trun, hr, h]
theorem trun_none (ts : List Td) (i j : Nat) (hij : i ≤ j) (h : trun fieldsB ts i = none) : trun fieldsB ts j = none := by
  induction j with
  | zero => have : i = 0 := by omega
            subst this; simp [trun] at h
  | succ j ih =>
    by_cases e : i = j + 1
    · subst e; exact h
    · simp [trun, ih (by omega)]
def termB' (ts : List Td) : Bool := decide (ts.length ≤ 20000) && (match trun fieldsB ts ts.length with | some st => decide (st.length = 1) | none => false)
theorem tstep_none {st : List Int} {i : Nat} {td : Td} (h : tkidsN td.k < 0 ∨ (st.length : Int) < tkidsN td.k ∨ fieldsB td = false ∨ td.kids ≠ st.drop (st.length - (tkidsN td.k).toNat)) : tstep fieldsB st i td = none := by rw [tstep, if_pos h]
theorem tstep_some {st : List Int} {i : Nat} {td : Td} (h1 : 0 ≤ tkidsN td.k) (h2 : tkidsN td.k ≤ st.length) (h3 : fieldsB td = true) (h4 : td.kids = st.drop (st.length - (tkidsN td.k).toNat)) :
    tstep fieldsB st i td = some (st.take (st.length - (tkidsN td.k).toNat) ++ [(i : Int)]) := by
  rw [tstep, if_neg]
  rintro (h | h | h | h)
  · omega
  · omega
  · rw [h3] at h; cases h
  · exact h h4
theorem term_false (ts : List Td) (i : Nat) (hi : i < ts.length) (st : List Int) (hr : trun fieldsB ts i = some st) (hs : tstep fieldsB st i ts[i] = none) : termB' fieldsB ts = false := by
  have h1 := trun_succ fieldsB ts i hi st hr
  rw [hs] at h1
  have h2 := trun_none fieldsB ts (i + 1) ts.length (by omega) h1
  simp [termB', h2]
end
end Go.Proofs.YtpmpooekpeocdaaGreat

/- Plain facts on lists of bytes: what a text's parts between dots are, and that cutting at the first dot, or going on byte by byte, gives them. No program is named here. -/
namespace Go.Proofs.YtpmpooekpeocdaaGreat

def parts : List UInt8 → List (List UInt8)
  | [] => [[]]
  | c :: l => if c = 46 then [] :: parts l else match parts l with | [] => [[c]] | p :: ps => (c :: p) :: ps

theorem parts_none : ∀ (l : List UInt8), 46 ∉ l → parts l = [l]
  | [], _ => rfl
  | c :: l, h => by
    have hc : ¬ c = 46 := fun e => h (by simp [e])
    have hl : 46 ∉ l := fun e => h (by simp [e])
    simp [parts, hc, parts_none l hl]
theorem parts_at : ∀ (a b : List UInt8), 46 ∉ a → parts (a ++ 46 :: b) = a :: parts b
  | [], b, _ => by simp [parts]
  | c :: a, b, h => by
    have hc : ¬ c = 46 := fun e => h (by simp [e])
    have hl : 46 ∉ a := fun e => h (by simp [e])
    simp [parts, hc, parts_at a b hl]
theorem parts_len : ∀ (l : List UInt8), (parts l).length ≤ l.length + 1
  | [] => by simp [parts]
  | c :: l => by
    have ih := parts_len l
    unfold parts
    split
    · simp; omega
    · split
      · simp
      · rename_i h; rw [h] at ih; simp at ih ⊢; omega

/-- Where a loop over the bytes stands: at byte k, the part at hand began at f, the parts ahead of it are ps. -/
def CutAt (L : List UInt8) (k f : Nat) (ps : List (List UInt8)) : Prop :=
  (k ≤ L.length ∧ f ≤ k ∧ 46 ∉ (L.drop f).take (k - f) ∧ parts L = ps ++ parts (L.drop f)) ∨ (k = L.length + 1 ∧ parts L = ps)
theorem cut_start (L : List UInt8) : CutAt L 0 0 [] := .inl ⟨Nat.zero_le _, Nat.le_refl _, by simp, by simp⟩
theorem cut_last {L : List UInt8} {f : Nat} {ps : List (List UInt8)} (h : CutAt L L.length f ps) : f ≤ L.length ∧ CutAt L (L.length + 1) (L.length + 1) (ps ++ [(L.drop f).take (L.length - f)]) := by
  rcases h with ⟨_, hf, hn, hp⟩ | ⟨h, _⟩
  · have e : (L.drop f).take (L.length - f) = L.drop f := List.take_of_length_le (by simp)
    refine ⟨hf, .inr ⟨rfl, ?_⟩⟩
    rw [e] at hn ⊢
    rw [hp, parts_none _ hn]
  · omega
theorem drop_split (L : List UInt8) (k f : Nat) (hk : k < L.length) (hf : f ≤ k) : L.drop f = (L.drop f).take (k - f) ++ L[k] :: L.drop (k + 1) := by
  have h1 : (L.drop f).drop (k - f) = L[k] :: L.drop (k + 1) := by
    rw [List.drop_drop, show f + (k - f) = k from by omega, List.drop_eq_getElem_cons hk]
  have h2 := List.take_append_drop (k - f) (L.drop f)
  rw [h1] at h2
  exact h2.symm
theorem cut_dot {L : List UInt8} {k f : Nat} {ps : List (List UInt8)} (hk : k < L.length) (h : CutAt L k f ps) (hc : L[k] = 46) : f ≤ k ∧ CutAt L (k + 1) (k + 1) (ps ++ [(L.drop f).take (k - f)]) := by
  rcases h with ⟨_, hf, hn, hp⟩ | ⟨h, _⟩
  · have e := drop_split L k f hk hf
    refine ⟨hf, .inl ⟨by omega, Nat.le_refl _, by simp, ?_⟩⟩
    rw [hc] at e
    have e2 : parts (L.drop f) = (L.drop f).take (k - f) :: parts (L.drop (k + 1)) := by
      conv => lhs; rw [e]
      exact parts_at _ _ hn
    rw [hp, e2]; simp
  · omega
theorem cut_byte {L : List UInt8} {k f : Nat} {ps : List (List UInt8)} (hk : k < L.length) (h : CutAt L k f ps) (hc : L[k] ≠ 46) : CutAt L (k + 1) f ps := by
  rcases h with ⟨_, hf, hn, hp⟩ | ⟨h, _⟩
  · refine .inl ⟨by omega, by omega, ?_, hp⟩
    have hl : k - f < (L.drop f).length := by simp; omega
    rw [show k + 1 - f = (k - f) + 1 from by omega, List.take_succ_eq_append_getElem hl]
    have : (L.drop f)[k - f] = L[k] := by simp [show f + (k - f) = k from by omega]
    rw [this]
    simp only [List.mem_append, List.mem_singleton, not_or]
    exact ⟨hn, fun e => hc e.symm⟩
  · omega
theorem cut_end {L : List UInt8} {f : Nat} {ps : List (List UInt8)} (h : CutAt L (L.length + 1) f ps) : parts L = ps := by
  rcases h with ⟨h, _⟩ | ⟨_, h⟩
  · omega
  · exact h

/-- The first dot, as the library's search tells it. -/
theorem index_miss : ∀ (l : List UInt8), Lib.indexByte l 46 < 0 → 46 ∉ l
  | [], _ => by simp
  | c :: l, h => by
    have hg := Lib.indexByte_ge l 46
    unfold Lib.indexByte at h
    split at h
    · omega
    · rename_i hc
      split at h
      · rename_i h1
        have := index_miss l (by have := beq_iff_eq.1 h1; omega)
        simp only [List.mem_cons, not_or]
        exact ⟨fun e => hc (by simp [e]), this⟩
      · rename_i h1
        have : Lib.indexByte l 46 ≠ -1 := fun e => h1 (by simp [e])
        omega
theorem index_hit : ∀ (l : List UInt8) (i : Nat), Lib.indexByte l 46 = i → i < l.length ∧ 46 ∉ l.take i ∧ l = l.take i ++ 46 :: l.drop (i + 1)
  | [], i, h => by simp [Lib.indexByte] at h
  | c :: l, i, h => by
    unfold Lib.indexByte at h
    split at h
    · rename_i hc
      have : c = 46 := by simpa using hc
      have : i = 0 := by omega
      subst this; subst c; simp
    · rename_i hc
      split at h
      · omega
      · rename_i h1
        obtain ⟨j, hj⟩ : ∃ j : Nat, Lib.indexByte l 46 = j := by
          have hg := Lib.indexByte_ge l 46
          have : Lib.indexByte l 46 ≠ -1 := fun e => h1 (by simp [e])
          exact ⟨(Lib.indexByte l 46).toNat, by omega⟩
        have : i = j + 1 := by omega
        subst this
        obtain ⟨a, b, c'⟩ := index_hit l j hj
        refine ⟨by simp; omega, ?_, ?_⟩
        · simp only [List.take_succ_cons, List.mem_cons, not_or]
          exact ⟨fun e => hc (by simp [e]), b⟩
        · simp only [List.take_succ_cons, List.drop_succ_cons, List.cons_append]
          rw [← c']
end Go.Proofs.YtpmpooekpeocdaaGreat

/- What strings.Cut answers at the separator of one dot, whatever the text: the text up to the first dot, the text behind it and true; or the text, the empty text and false. -/
namespace Go.Proofs.YtpmpooekpeocdaaGreat
open Go.ChangeShapes Go.WideShapes Go.ChangeAt Go.RowKit

set_option maxHeartbeats 1000000 in
set_option maxRecDepth 100000 in
theorem indexByte_any (s : ByteArray) (c : Int) (w : World) :
    Calls Tryz.prog 249 #[.string s, .int .u8 c] w fun e w' => e = .returned (.int .i64 (Lib.indexByte s.data.toList c.toNat.toUInt8)) ∧ w' = w := by
  go_enter Tryz.func249, Tryz.ntmps249
  go_wp2
  rw [run_callFunc_extern Tryz.func266 (by kernel_rfl) (by kernel_rfl) (by kernel_rfl) (e := Extern.BytealgIndexByte.indexByte) (by kernel_rfl), Lib.run_indexByteString]
  simp only [Result.andThen]
  rw [Oper.upon_value]
  go_wp2
  go_ret
  exact ⟨rfl, rfl⟩

set_option maxHeartbeats 2000000 in
set_option maxRecDepth 100000 in
theorem index_one (s : ByteArray) (c : UInt8) (w : World) :
    Calls Tryz.prog 210 #[.string s, .string ⟨#[c]⟩] w fun e w' => e = .returned (.int .i64 (Lib.indexByte s.data.toList c)) ∧ w' = w := by
  go_enter Tryz.func210, Tryz.ntmps210
  go_wp2_with (go_at_call 249; refine (indexByte_any _ _ _).mono ?_; rintro e w' ⟨rfl, rfl⟩)
  · have h : ([c] == s.toList) = true := by assumption
    go_ret
    refine ⟨?_, rfl⟩
    have e : s.data.toList = [c] := by rw [← Lib.toList_data]; exact (beq_iff_eq.1 h).symm
    rw [e]
    simp [Lib.indexByte]
  · go_ret
    exact ⟨rfl, rfl⟩

set_option maxHeartbeats 2000000 in
set_option maxRecDepth 100000 in
theorem cutLite_miss (s : ByteArray) (w : World) (h : 46 ∉ s.data.toList) :
    Calls Tryz.prog 178 #[.string s, .string ⟨#[46]⟩] w fun e w' => e = .returned (.tuple #[.string s, .string ⟨#[]⟩, .bool false]) ∧ ∃ n, w' = w.drewN n := by
  have hi : Lib.indexByte s.data.toList 46 = -1 := by
    have hg := Lib.indexByte_ge s.data.toList 46
    by_cases hp : 0 ≤ Lib.indexByte s.data.toList 46
    · obtain ⟨_, _, e⟩ := index_hit s.data.toList (Lib.indexByte s.data.toList 46).toNat (by omega)
      exact absurd (by rw [e]; simp) h
    · omega
  clear h
  go_enter Tryz.func178, Tryz.ntmps178
  go_wp2_with (go_at_call 210; refine (index_one _ _ _).mono ?_; rintro e w' ⟨rfl, rfl⟩; rw [hi])
  go_ret3
  exact ⟨rfl, 0, rfl⟩

set_option maxHeartbeats 2000000 in
set_option maxRecDepth 100000 in
theorem cutLite_hit (s : ByteArray) (i : Nat) (w : World) (hs : s.size ≤ maxLen) (hi : Lib.indexByte s.data.toList 46 = i) :
    Calls Tryz.prog 178 #[.string s, .string ⟨#[46]⟩] w fun e w' => e = .returned (.tuple #[.string (s.extract 0 i), .string (s.extract (i + 1) s.size), .bool true]) ∧ ∃ n, w' = w.drewN n := by
  unfold maxLen at hs
  have hroom : i < s.size := by have := (index_hit _ i hi).1; simpa using this
  have c1 : (0 : Int) ≤ ↑i := by omega
  have c2 : (↑i : Int) ≤ ↑s.size := by omega
  have c3 : (0 : Int) ≤ ↑i + 1 := by omega
  have c4 : (↑i + 1 : Int) ≤ ↑s.size := by omega
  have HI : Hid (Lib.indexByte s.data.toList 46 = i) := hi
  clear hi
  go_enter Tryz.func178, Tryz.ntmps178
  go_wp2_with (go_at_call 210; refine (index_one _ _ _).mono ?_; rintro e w' ⟨rfl, rfl⟩; rw [HI.out])
  go_region
  go_wp2
  go_ret3
  exact ⟨rfl, 1, rfl⟩

set_option maxHeartbeats 1000000 in
theorem cut_miss (s : ByteArray) (w : World) (h : 46 ∉ s.data.toList) :
    Calls Tryz.prog 147 #[.string s, .string ⟨#[46]⟩] w fun e w' => e = .returned (.tuple #[.string s, .string ⟨#[]⟩, .bool false]) ∧ ∃ n, w' = w.drewN n := by
  go_enter Tryz.func147, Tryz.ntmps147
  go_wp2_with (go_at_call 178; refine (cutLite_miss _ _ h).mono ?_; rintro e w' ⟨rfl, n, rfl⟩)
  go_ret3
  exact ⟨rfl, n, rfl⟩

set_option maxHeartbeats 1000000 in
theorem cut_hit (s : ByteArray) (i : Nat) (w : World) (hs : s.size ≤ maxLen) (hi : Lib.indexByte s.data.toList 46 = i) :
    Calls Tryz.prog 147 #[.string s, .string ⟨#[46]⟩] w fun e w' => e = .returned (.tuple #[.string (s.extract 0 i), .string (s.extract (i + 1) s.size), .bool true]) ∧ ∃ n, w' = w.drewN n := by
  have HI : Hid (Lib.indexByte s.data.toList 46 = i) := hi
  clear hi
  go_enter Tryz.func147, Tryz.ntmps147
  go_wp2_with (go_at_call 178; refine (cutLite_hit _ i _ hs HI.out).mono ?_; rintro e w' ⟨rfl, n, rfl⟩)
  go_ret3
  exact ⟨rfl, n, rfl⟩
end Go.Proofs.YtpmpooekpeocdaaGreat

/- What the specification's l1Cut answers at a text of at most 40 bytes and a dot: a new row that holds the text's parts between dots. -/
namespace Go.Proofs.YtpmpooekpeocdaaGreat
open Go.ChangeShapes Go.WideShapes Go.ChangeAt Go.RowKit

theorem Tryz.info9c : (Tryz.prog.info? 9).map (fun i => (i.zero, i.size, i.bytes)) = some (some (.string ⟨#[]⟩), 1, 16) := by kernel_rfl

def strV (l : List UInt8) : Value := .string ⟨l.toArray⟩
theorem strV_extract (s : ByteArray) (a b : Nat) : Value.string (s.extract a b) = strV ((s.data.toList.drop a).take (b - a)) := by
  unfold strV
  rw [← Lib.extract_data]

theorem byte_ne (s : ByteArray) (k : Nat) (h : k < s.size) (hn : s.data.toList[k]'(by simpa using h) ≠ 46) : ((s[k].toNat : Int) == 46) = false := by
  have e : s.data.toList[k]'(by simpa using h) = s[k] := by rw [Array.getElem_toList]; rfl
  rw [e] at hn
  rw [beq_eq_false_iff_ne]
  intro h2
  apply hn
  apply UInt8.toNat_inj.1
  show s[k].toNat = 46
  omega
theorem byte_eq (s : ByteArray) (k : Nat) (h : k < s.size) (hn : s.data.toList[k]'(by simpa using h) = 46) : ((s[k].toNat : Int) == 46) = true := by
  have e : s.data.toList[k]'(by simpa using h) = s[k] := by rw [Array.getElem_toList]; rfl
  rw [e] at hn
  rw [hn]; rfl

set_option maxHeartbeats 1000000 in
set_option maxRecDepth 20000 in
theorem l1Cut_any (s : ByteArray) (w : World) (hs : s.size ≤ 40) :
    Calls Tryz.prog 103 #[.string s, .int .u8 46] w fun e w' => ∃ v, e = .returned v ∧ w'.ownsRow w.heap.size 9 1 v (parts s.data.toList).length ((parts s.data.toList).map strV) ∧ Below w.heap.size w w' := by
  obtain ⟨i0, hi, hz0, hz1, hz2⟩ := info_parts Tryz.info9c
  go_enter Tryz.func103, Tryz.ntmps103
  go_wp2
  go_loopw [5, 6, 7] (fun o f i wr => ∃ (k fr : Nat) (ps : List (List UInt8)), k ≤ s.size + 1 ∧ fr ≤ s.size + 1 ∧ ps.length ≤ k ∧ i = .int .i64 k ∧ f = .int .i64 fr ∧ Hid (CutAt s.data.toList k fr ps) ∧ wr.ownsRow w.heap.size 9 1 o ps.length (ps.map strV) ∧ Below w.heap.size w wr) (fun _ _ i _ => s.size + 1 - (intOf i).toNat)
  case atStart => exact ⟨0, 0, [], by omega, by omega, by simp, rfl, rfl, cut_start _, World.ownsRow_made _ _ _ (Nat.le_refl _) (by unfold maxLen; omega) rfl, (Below.refl _ _).alloc (Nat.le_refl _) _⟩
  case round =>
    obtain ⟨k, fr, ps, hk, hfr, hpl, rfl, rfl, HC, hown, hbel⟩ := hrel
    by_cases hlast : k = s.size + 1
    · have hge : (s.size : Int) < k := by omega
      have HE : Hid (parts s.data.toList = ps) := by
        have := HC.out
        rw [hlast, show s.size + 1 = s.data.toList.length + 1 from by simp] at this
        exact cut_end this
      clear hlast HC
      go_wp2
      go_ret
      exact ⟨_, rfl, by rw [HE.out]; exact hown, hbel⟩
    · have hle : (k : Int) ≤ s.size := by omega
      by_cases hend : k = s.size
      · have hq : ((k : Int) == (s.size : Int)) = true := beq_iff_eq.2 (by omega)
        have hlen : s.data.toList.length = s.size := by simp
        obtain ⟨hfk, hnext⟩ : fr ≤ k ∧ CutAt s.data.toList (k + 1) (k + 1) (ps ++ [(s.data.toList.drop fr).take (k - fr)]) := by
          have := HC.out
          rw [hend, ← hlen] at this ⊢
          exact cut_last this
        have HN : Hid (CutAt s.data.toList (k + 1) (k + 1) (ps ++ [(s.data.toList.drop fr).take (k - fr)])) := hnext
        clear hnext hend HC hlast hlen
        go_wp2_with (at_builtin; refine wpList_append_own _ rfl _ _ 22 rfl w.heap.size 9 i0 (.string ⟨#[]⟩) 1 16 Tryz.underlying22 hi hz0 hz1 hz2 rfl (by decide) _ _ _ rfl (hown.alloc _) ⟨wr.heap.size, 0, none⟩ 1 1 [.string (s.extract fr k)] rfl rfl ?c1 ?c2 ?c3 ?c4 ?c5 ?_)
        case c1 => exact cell_one_new _ _ _
        case c2 => first | rfl | (intro u hu; simp at hu; subst hu; rfl)
        case c3 => unfold maxLen; omega
        case c4 => omega
        case c5 => have := hbel.size; simp; omega
        intro v' w2 hown' hgrow' _
        have hown2 : w2.ownsRow w.heap.size 9 1 v' (ps ++ [(s.data.toList.drop fr).take (k - fr)]).length ((ps ++ [(s.data.toList.drop fr).take (k - fr)]).map strV) := by
          rw [strV_extract] at hown'; simpa using hown'
        have hbel2 : Below w.heap.size w w2 := (hbel.alloc hbel.size _).grown hgrow' (by have := hbel.size; simp; omega) (fun j hj => (hown.lt j hj).1)
        clear hown' hgrow' hown
        go_wp2
        go_roundw
        case rel => exact ⟨k + 1, k + 1, _, by omega, by omega, by simp; omega, by go_num, by go_num, HN, hown2, hbel2⟩
        case measure => simp [intOf]; omega
      · have hq : ((k : Int) == (s.size : Int)) = false := beq_eq_false_iff_ne.2 (by omega)
        have hlt : k < s.size := by omega
        have hkl : k < s.data.toList.length := by simpa using hlt
        by_cases hdot : s.data.toList[k]'hkl = 46
        · have hb := byte_eq s k hlt hdot
          obtain ⟨hfk, hnext⟩ := cut_dot hkl HC.out hdot
          have HN : Hid (CutAt s.data.toList (k + 1) (k + 1) (ps ++ [(s.data.toList.drop fr).take (k - fr)])) := hnext
          clear hnext hend HC hlast hkl hdot
          go_wp2_with (at_builtin; refine wpList_append_own _ rfl _ _ 22 rfl w.heap.size 9 i0 (.string ⟨#[]⟩) 1 16 Tryz.underlying22 hi hz0 hz1 hz2 rfl (by decide) _ _ _ rfl (hown.alloc _) ⟨wr.heap.size, 0, none⟩ 1 1 [.string (s.extract fr k)] rfl rfl ?c1 ?c2 ?c3 ?c4 ?c5 ?_)
          case c1 => exact cell_one_new _ _ _
          case c2 => first | rfl | (intro u hu; simp at hu; subst hu; rfl)
          case c3 => unfold maxLen; omega
          case c4 => omega
          case c5 => have := hbel.size; simp; omega
          intro v' w2 hown' hgrow' _
          have hown2 : w2.ownsRow w.heap.size 9 1 v' (ps ++ [(s.data.toList.drop fr).take (k - fr)]).length ((ps ++ [(s.data.toList.drop fr).take (k - fr)]).map strV) := by
            rw [strV_extract] at hown'; simpa using hown'
          have hbel2 : Below w.heap.size w w2 := (hbel.alloc hbel.size _).grown hgrow' (by have := hbel.size; simp; omega) (fun j hj => (hown.lt j hj).1)
          clear hown' hgrow' hown
          go_wp2
          go_roundw
          case rel => exact ⟨k + 1, k + 1, _, by omega, by omega, by simp; omega, by go_num, by go_num, HN, hown2, hbel2⟩
          case measure => simp [intOf]; omega
        · have hb := byte_ne s k hlt hdot
          have HN : Hid (CutAt s.data.toList (k + 1) fr ps) := cut_byte hkl HC.out hdot
          clear hend HC hlast hkl hdot
          go_wp2
          go_roundw
          case rel => exact ⟨k + 1, fr, ps, by omega, by omega, by omega, by go_num, rfl, HN, hown, hbel⟩
          case measure => simp [intOf]; omega
end Go.Proofs.YtpmpooekpeocdaaGreat
