/- What the small tests on one byte answer, on both sides: each is one function of the byte's number, whatever the number. -/
import Derived.Test.YtpmpooekpeocdaaGreatRows
import Derived.WalkKit
import Derived.ProofKit
import Derived.WalkLawsBesides
import Derived.WalkSpells
import Derived.Deep.Draws
namespace Go.Proofs.YtpmpooekpeocdaaGreat
open Go.ChangeShapes Go.WideShapes Go.ChangeAt Go.RowKit

def letB (n : Int) : Bool := (decide (97 ≤ n) && decide (n ≤ 122)) || (decide (65 ≤ n) && decide (n ≤ 90)) || decide (n = 95)
def digB (n : Int) : Bool := decide (48 ≤ n) && decide (n ≤ 57)
def alfB (n : Int) : Bool := (decide (97 ≤ n) && decide (n ≤ 122)) || (decide (65 ≤ n) && decide (n ≤ 90))
def goesB (n : Int) : Bool := letB n || digB n || decide (n = 39)

theorem ret_bool {a b : Bool} (h : a = b) : Ending.returned (.bool a) = .returned (.bool b) := by rw [h]

set_option maxHeartbeats 400000 in
theorem l1Letter_any (n : Int) (w : World) : Calls Tryz.prog 138 #[.int .u8 n] w fun e w' => e = .returned (.bool (letB n)) ∧ w' = w := by
  go_enter Tryz.func138, Tryz.ntmps138
  go_wp2
  all_goals
    go_ret
    exact ⟨ret_bool (by rw [Bool.eq_iff_iff]; simp [letB]; omega), rfl⟩
set_option maxHeartbeats 400000 in
theorem l1Digit_any (n : Int) (w : World) : Calls Tryz.prog 139 #[.int .u8 n] w fun e w' => e = .returned (.bool (digB n)) ∧ w' = w := by
  go_enter Tryz.func139, Tryz.ntmps139
  go_wp2
  all_goals
    go_ret
    exact ⟨ret_bool (by rw [Bool.eq_iff_iff]; simp [digB]; omega), rfl⟩
set_option maxHeartbeats 400000 in
theorem isLetter_any (n : Int) (w : World) : Calls Tryz.prog 211 #[.int .u8 n] w fun e w' => e = .returned (.bool (alfB n)) ∧ w' = w := by
  go_enter Tryz.func211, Tryz.ntmps211
  go_wp2
  all_goals
    go_ret
    exact ⟨ret_bool (by rw [Bool.eq_iff_iff]; simp [alfB]; omega), rfl⟩
set_option maxHeartbeats 400000 in
theorem isDigit_any (n : Int) (w : World) : Calls Tryz.prog 212 #[.int .u8 n] w fun e w' => e = .returned (.bool (digB n)) ∧ w' = w := by
  go_enter Tryz.func212, Tryz.ntmps212
  go_wp2
  all_goals
    go_ret
    exact ⟨ret_bool (by rw [Bool.eq_iff_iff]; simp [digB]; omega), rfl⟩
set_option maxHeartbeats 400000 in
theorem beginsName_any (n : Int) (w : World) : Calls Tryz.prog 179 #[.int .u8 n] w fun e w' => e = .returned (.bool (letB n)) ∧ w' = w := by
  cases h : alfB n
  all_goals
    go_enter Tryz.func179, Tryz.ntmps179
    go_wp2_with (go_at_call 211; refine (isLetter_any _ _).mono ?_; rintro e w' ⟨rfl, rfl⟩)
  all_goals
    go_ret
    exact ⟨ret_bool (by rw [Bool.eq_iff_iff]; simp [alfB] at h; simp [letB]; omega), rfl⟩
set_option maxHeartbeats 400000 in
theorem goesOnName_any (n : Int) (w : World) : Calls Tryz.prog 180 #[.int .u8 n] w fun e w' => e = .returned (.bool (goesB n)) ∧ w' = w := by
  cases h : letB n <;> cases h2 : digB n
  all_goals
    go_enter Tryz.func180, Tryz.ntmps180
    go_wp2_with (first | (go_at_call 179; refine (beginsName_any _ _).mono ?_; rintro e w' ⟨rfl, rfl⟩) | (go_at_call 212; refine (isDigit_any _ _).mono ?_; rintro e w' ⟨rfl, rfl⟩))
  all_goals
    go_ret
    exact ⟨ret_bool (by rw [Bool.eq_iff_iff]; simp [goesB, h, h2]), rfl⟩
end Go.Proofs.YtpmpooekpeocdaaGreat

/- What the two functions ShortOk answer (the specification's and the program's): the same function of the text's bytes, whatever the text. -/
namespace Go.Proofs.YtpmpooekpeocdaaGreat
open Go.ChangeShapes Go.WideShapes Go.ChangeAt Go.RowKit

def goesC (c : UInt8) : Bool := goesB (c.toNat : Int)
def headOk (l : List UInt8) : Bool := match l with | [] => false | c :: _ => letB (c.toNat : Int)
def shortB (s : ByteArray) : Bool := decide (1 ≤ s.size) && decide (s.size ≤ 40) && headOk s.data.toList && s.data.toList.all goesC

theorem head_of (s : ByteArray) (h : 0 < s.size) : headOk s.data.toList = letB (s[0].toNat : Int) := by
  have e : s.data.toList = s[0] :: s.data.toList.tail := by
    have hl : 0 < s.data.toList.length := by simpa using h
    rw [← List.cons_head_tail (List.ne_nil_of_length_pos hl)]
    simp [List.head_eq_getElem]
    rfl
  rw [e]; rfl
theorem take_snoc (s : ByteArray) (k : Nat) (h : k < s.size) : s.data.toList.take (k + 1) = s.data.toList.take k ++ [s[k]] := by
  rw [List.take_succ_eq_append_getElem (by simpa using h)]; rfl
theorem all_snoc (s : ByteArray) (k : Nat) (h : k < s.size) (ha : (s.data.toList.take k).all goesC = true) (hc : goesB (s[k].toNat : Int) = true) :
    (s.data.toList.take (k + 1)).all goesC = true := by
  rw [take_snoc s k h, List.all_append, ha]; simp [goesC, hc]
theorem all_not (s : ByteArray) (k : Nat) (h : k < s.size) (hc : goesB (s[k].toNat : Int) = false) : s.data.toList.all goesC = false := by
  rw [List.all_eq_false]
  exact ⟨s[k], by show s.data[k] ∈ s.data.toList; simp, by simp [goesC, hc]⟩
theorem all_end (s : ByteArray) (k : Nat) (h : s.size ≤ k) (ha : (s.data.toList.take k).all goesC = true) : s.data.toList.all goesC = true := by
  rwa [List.take_of_length_le (by simpa using h)] at ha

set_option maxHeartbeats 400000 in
theorem specShort_any (s : ByteArray) (w : World) (hs : s.size ≤ maxLen) : Calls Tryz.prog 104 #[.string s] w fun e w' => e = .returned (.bool (shortB s)) ∧ w' = w := by
  unfold maxLen at hs
  by_cases h1 : s.size < 1
  · go_enter Tryz.func104, Tryz.ntmps104
    go_wp2
    go_ret
    exact ⟨ret_bool (by simp [shortB]; omega), rfl⟩
  by_cases h2 : 40 < s.size
  · go_enter Tryz.func104, Tryz.ntmps104
    go_wp2
    go_ret
    exact ⟨ret_bool (by simp [shortB]; omega), rfl⟩
  have h0 : 0 < s.size := by omega
  have hh := head_of s h0
  have d1 : decide ((s.size : Int) < 1) = false := by simp; omega
  have d2 : decide (40 < (s.size : Int)) = false := by simp; omega
  cases hb : letB (s[0].toNat : Int)
  · have HF : Hid (shortB s = false) := by rw [hb] at hh; show shortB s = false; simp [shortB, hh]
    clear hh
    go_enter Tryz.func104, Tryz.ntmps104
    go_wp2_with (go_at_call 138; refine (l1Letter_any _ _).mono ?_; rintro e w' ⟨rfl, rfl⟩)
    go_ret
    exact ⟨ret_bool HF.out.symm, rfl⟩
  · have HF : Hid (shortB s = s.data.toList.all goesC) := by
      rw [hb] at hh; show shortB s = _; simp [shortB, hh]; omega
    clear hh
    go_enter Tryz.func104, Tryz.ntmps104
    go_wp2_with (go_at_call 138; refine (l1Letter_any _ _).mono ?_; rintro e w' ⟨rfl, rfl⟩)
    go_loop [3] (fun i => ∃ k : Nat, k ≤ s.size ∧ i = .int .i64 k ∧ Hid ((s.data.toList.take k).all goesC = true)) (fun i => s.size - (intOf i).toNat)
    case atStart => exact ⟨0, Nat.zero_le _, rfl, rfl⟩
    case round =>
      obtain ⟨k, hk, rfl, HA⟩ := hrel
      by_cases hlt : k < s.size
      · cases hg : goesB (s[k].toNat : Int)
        · have HN : Hid (s.data.toList.all goesC = false) := all_not s k hlt hg
          obtain ⟨hl, hd, hq⟩ : letB (s[k].toNat : Int) = false ∧ digB (s[k].toNat : Int) = false ∧ ((s[k].toNat : Int) != 39) = true := by
            simp [goesB] at hg; simp; exact ⟨hg.1.1, hg.1.2, by omega⟩
          clear hg
          go_wp2_with (first | (go_at_call 138; refine (l1Letter_any _ _).mono ?_; rintro e w' ⟨rfl, rfl⟩) | (go_at_call 139; refine (l1Digit_any _ _).mono ?_; rintro e w' ⟨rfl, rfl⟩))
          go_ret
          exact ⟨ret_bool (by rw [HF.out, HN.out]), rfl⟩
        · have HN : Hid ((s.data.toList.take (k + 1)).all goesC = true) := all_snoc s k hlt HA.out hg
          cases hl : letB (s[k].toNat : Int)
          · cases hd : digB (s[k].toNat : Int)
            · have hq : ((s[k].toNat : Int) != 39) = false := by
                simp [goesB, hl, hd] at hg; simp; omega
              clear hg
              go_wp2_with (first | (go_at_call 138; refine (l1Letter_any _ _).mono ?_; rintro e w' ⟨rfl, rfl⟩) | (go_at_call 139; refine (l1Digit_any _ _).mono ?_; rintro e w' ⟨rfl, rfl⟩))
              go_round
              case rel => exact ⟨k + 1, by omega, by go_num, HN⟩
              case measure => simp [intOf]; omega
            · clear hg
              go_wp2_with (first | (go_at_call 138; refine (l1Letter_any _ _).mono ?_; rintro e w' ⟨rfl, rfl⟩) | (go_at_call 139; refine (l1Digit_any _ _).mono ?_; rintro e w' ⟨rfl, rfl⟩))
              go_round
              case rel => exact ⟨k + 1, by omega, by go_num, HN⟩
              case measure => simp [intOf]; omega
          · clear hg
            go_wp2_with (first | (go_at_call 138; refine (l1Letter_any _ _).mono ?_; rintro e w' ⟨rfl, rfl⟩) | (go_at_call 139; refine (l1Digit_any _ _).mono ?_; rintro e w' ⟨rfl, rfl⟩))
            go_round
            case rel => exact ⟨k + 1, by omega, by go_num, HN⟩
            case measure => simp [intOf]; omega
      · have HE := all_end s k (by omega) HA.out
        have HN : Hid (s.data.toList.all goesC = true) := HE
        clear HE
        go_wp2_with fail
        go_ret
        exact ⟨ret_bool (by rw [HF.out, HN.out]), rfl⟩

set_option maxHeartbeats 400000 in
theorem implShort_any (s : ByteArray) (w : World) (hs : s.size ≤ maxLen) : Calls Tryz.prog 148 #[.string s] w fun e w' => e = .returned (.bool (shortB s)) ∧ w' = w := by
  unfold maxLen at hs
  by_cases h1 : s.size = 0
  · have HF : Hid (shortB s = false) := by show shortB s = false; simp [shortB, h1]
    have d1 : ((s.size : Int) == 0) = true := beq_iff_eq.2 (by omega)
    clear h1
    go_enter Tryz.func148, Tryz.ntmps148
    go_wp2
    go_ret
    exact ⟨ret_bool HF.out.symm, rfl⟩
  have d1 : ((s.size : Int) == 0) = false := beq_eq_false_iff_ne.2 (by omega)
  by_cases h2 : 40 < s.size
  · go_enter Tryz.func148, Tryz.ntmps148
    go_wp2
    go_ret
    exact ⟨ret_bool (by simp [shortB]; omega), rfl⟩
  have h0 : 0 < s.size := by omega
  have hh := head_of s h0
  have d2 : decide (40 < (s.size : Int)) = false := by simp; omega
  cases hb : letB (s[0].toNat : Int)
  · have HF : Hid (shortB s = false) := by rw [hb] at hh; show shortB s = false; simp [shortB, hh]
    clear hh
    go_enter Tryz.func148, Tryz.ntmps148
    go_wp2_with (go_at_call 179; refine (beginsName_any _ _).mono ?_; rintro e w' ⟨rfl, rfl⟩)
    go_ret
    exact ⟨ret_bool HF.out.symm, rfl⟩
  · have HF : Hid (shortB s = s.data.toList.all goesC) := by
      rw [hb] at hh; show shortB s = _; simp [shortB, hh]; omega
    clear hh
    go_enter Tryz.func148, Tryz.ntmps148
    go_wp2_with (go_at_call 179; refine (beginsName_any _ _).mono ?_; rintro e w' ⟨rfl, rfl⟩)
    go_loop [20] (fun i => ∃ k : Nat, k ≤ s.size ∧ i = .int .i64 k ∧ Hid ((s.data.toList.take k).all goesC = true)) (fun i => s.size - (intOf i).toNat)
    case atStart => exact ⟨0, Nat.zero_le _, rfl, rfl⟩
    case round =>
      obtain ⟨k, hk, rfl, HA⟩ := hrel
      by_cases hlt : k < s.size
      · cases hg : goesB (s[k].toNat : Int)
        · have HN : Hid (s.data.toList.all goesC = false) := all_not s k hlt hg
          go_wp2_with (go_at_call 180; refine (goesOnName_any _ _).mono ?_; rintro e w' ⟨rfl, rfl⟩)
          go_ret
          exact ⟨ret_bool (by rw [HF.out, HN.out]), rfl⟩
        · have HN : Hid ((s.data.toList.take (k + 1)).all goesC = true) := all_snoc s k hlt HA.out hg
          go_wp2_with (go_at_call 180; refine (goesOnName_any _ _).mono ?_; rintro e w' ⟨rfl, rfl⟩)
          go_round
          case rel => exact ⟨k + 1, by omega, by go_num, HN⟩
          case measure => simp [intOf]; omega
      · have HE := all_end s k (by omega) HA.out
        have HN : Hid (s.data.toList.all goesC = true) := HE
        clear HE
        go_wp2_with fail
        go_ret
        exact ⟨ret_bool (by rw [HF.out, HN.out]), rfl⟩
end Go.Proofs.YtpmpooekpeocdaaGreat

/- How a level lies in memory: a row of nodes, each a number, a text and a row of numbers; and that what was there stays so where nothing below is written. -/
namespace Go.Proofs.YtpmpooekpeocdaaGreat
open Go.ChangeShapes Go.WideShapes Go.ChangeAt Go.RowKit

/-- A node: its kind, its text, its kids. -/
structure Nd where
  k : Int
  s : ByteArray
  kids : List Int

def IntsAt (w : World) (v : Value) (ks : List Int) : Prop :=
  ∃ a cap, v = .slice a ks.length cap ∧ ks.length ≤ cap ∧ cap ≤ maxLen ∧
    (0 < ks.length → ∃ b off, a = some ⟨b, off, none⟩ ∧ ∀ j (h : j < ks.length), w.cell? ⟨b, off + j, none⟩ = some (.int .i64 ks[j]))
def NodeAt (w : World) (b o : Nat) (nd : Nd) : Prop :=
  w.cell? ⟨b, o, none⟩ = some (.int .i64 nd.k) ∧ w.cell? ⟨b, o + 1, none⟩ = some (.string nd.s) ∧ ∃ kv, w.cell? ⟨b, o + 2, none⟩ = some kv ∧ IntsAt w kv nd.kids
def NodesAt (w : World) (v : Value) (ns : List Nd) : Prop :=
  ∃ a cap, v = .slice a ns.length cap ∧ ns.length ≤ cap ∧ cap ≤ maxLen ∧
    (0 < ns.length → ∃ b off, a = some ⟨b, off, none⟩ ∧ ∀ i (h : i < ns.length), NodeAt w b (off + i * 3) ns[i])

theorem lt_cell {w : World} {b o : Nat} {v : Value} (h : w.cell? ⟨b, o, none⟩ = some v) : b < w.heap.size := World.block_lt_of_cell? w ⟨b, o, none⟩ h
theorem keep_cell {w w' : World} (hb : Below w.heap.size w w') {b o : Nat} {v : Value} (h : w.cell? ⟨b, o, none⟩ = some v) : w'.cell? ⟨b, o, none⟩ = some v := by
  rw [hb.cell (p := ⟨b, o, none⟩) (lt_cell h)]; exact h
theorem IntsAt.keep {w w' : World} (hb : Below w.heap.size w w') {v : Value} {ks : List Int} (h : IntsAt w v ks) : IntsAt w' v ks := by
  obtain ⟨a, cap, hv, h1, h2, h3⟩ := h
  refine ⟨a, cap, hv, h1, h2, fun h0 => ?_⟩
  obtain ⟨b, off, ha, hc⟩ := h3 h0
  exact ⟨b, off, ha, fun j h => keep_cell hb (hc j h)⟩
theorem NodeAt.keep {w w' : World} (hb : Below w.heap.size w w') {b o : Nat} {nd : Nd} (h : NodeAt w b o nd) : NodeAt w' b o nd := by
  obtain ⟨h1, h2, kv, h3, h4⟩ := h
  exact ⟨keep_cell hb h1, keep_cell hb h2, kv, keep_cell hb h3, h4.keep hb⟩
theorem NodesAt.keep {w w' : World} (hb : Below w.heap.size w w') {v : Value} {ns : List Nd} (h : NodesAt w v ns) : NodesAt w' v ns := by
  obtain ⟨a, cap, hv, h1, h2, h3⟩ := h
  refine ⟨a, cap, hv, h1, h2, fun h0 => ?_⟩
  obtain ⟨b, off, ha, hc⟩ := h3 h0
  exact ⟨b, off, ha, fun i h => (hc i h).keep hb⟩

/-- What szLevel counts. -/
def ndSize (nd : Nd) : Nat := nd.s.size + nd.kids.length
def nsSum : List Nd → Nat
  | [] => 0
  | nd :: l => ndSize nd + nsSum l
theorem nsSum_append (a b : List Nd) : nsSum (a ++ b) = nsSum a + nsSum b := by
  induction a with
  | nil => simp [nsSum]
  | cons x a ih => simp [nsSum, ih]; omega
theorem nsSum_snoc (ns : List Nd) (i : Nat) (h : i < ns.length) : nsSum (ns.take (i + 1)) = nsSum (ns.take i) + ndSize ns[i] := by
  rw [List.take_succ_eq_append_getElem h, nsSum_append]; simp [nsSum]
theorem nsSum_le (ns : List Nd) (i : Nat) : nsSum (ns.take i) ≤ nsSum ns := by
  conv => rhs; rw [← List.take_append_drop i ns, nsSum_append]
  omega
end Go.Proofs.YtpmpooekpeocdaaGreat

/- What the counting of a level (szLevel and what it calls) answers. -/
namespace Go.Proofs.YtpmpooekpeocdaaGreat
open Go.ChangeShapes Go.WideShapes Go.ChangeAt Go.RowKit

/-- What is left when n is taken away: -1 where it is less than nothing. -/
def leftOf (left : Int) (n : Nat) : Int := if left < n then -1 else left - n
theorem ret_int {k : IntKind} {a b : Int} (h : a = b) : Ending.returned (.int k a) = .returned (.int k b) := by rw [h]

set_option maxHeartbeats 400000 in
theorem szIntS_any (v : Value) (ks : List Int) (left : Int) (w : World) (hk : IntsAt w v ks) (h0 : 0 ≤ left) (h1 : left ≤ 1048576) :
    Calls Tryz.prog 137 #[v, .int .i64 left] w fun e w' => e = .returned (.int .i64 (leftOf left ks.length)) ∧ w' = w := by
  obtain ⟨a, cap, rfl, hlc, hcm, _⟩ := hk
  unfold maxLen at hcm
  by_cases h : left < ks.length
  · go_enter Tryz.func137, Tryz.ntmps137
    go_wp2
    go_ret
    exact ⟨ret_int (by rw [leftOf, if_pos h]), rfl⟩
  · go_enter Tryz.func137, Tryz.ntmps137
    go_wp2
    go_ret
    exact ⟨ret_int (by rw [leftOf, if_neg (by omega)]), rfl⟩

set_option maxHeartbeats 400000 in
theorem szLNode_any (nd : Nd) (kv : Value) (left : Int) (w : World) (hs : nd.s.size ≤ maxLen) (hk : IntsAt w kv nd.kids) (h0 : 0 ≤ left) (h1 : left ≤ 1048576) :
    Calls Tryz.prog 245 #[.agg #[.int .i64 nd.k, .string nd.s, kv], .int .i64 left] w fun e w' => e = .returned (.int .i64 (leftOf left (ndSize nd))) ∧ Below w.heap.size w w' := by
  unfold maxLen at hs
  by_cases h : left < nd.s.size
  · go_enter Tryz.func245, Tryz.ntmps245
    go_wp2_with fail
    go_ret
    exact ⟨ret_int (by rw [leftOf, if_pos (by unfold ndSize; omega)]), (Below.refl _ _).alloc (Nat.le_refl _) _⟩
  · have hbox := fun o => hk.keep ((Below.refl w.heap.size w).alloc (Nat.le_refl _) o)
    have HK : Hid (∀ o, IntsAt (w.alloc o) kv nd.kids) := hbox
    clear hbox
    obtain ⟨a, cap, rfl, hlc, hcm, _⟩ := hk
    by_cases h2 : left - nd.s.size < nd.kids.length
    · have HL : Hid (leftOf (left - nd.s.size) nd.kids.length = -1) := by show leftOf _ _ = _; rw [leftOf, if_pos h2]
      go_enter Tryz.func245, Tryz.ntmps245
      go_wp2_with (go_at_call 137; refine (szIntS_any _ nd.kids _ _ (HK.out _) (by omega) (by omega)).mono ?_; rintro e w' ⟨rfl, rfl⟩; rw [HL.out])
      go_ret
      exact ⟨ret_int (by rw [leftOf, if_pos (by unfold ndSize; omega)]), (Below.refl _ _).alloc (Nat.le_refl _) _⟩
    · have HL : Hid (leftOf (left - nd.s.size) nd.kids.length = left - nd.s.size - nd.kids.length) := by show leftOf _ _ = _; rw [leftOf, if_neg h2]
      have hpos : (nd.kids.length : Int) ≤ left - nd.s.size := by omega
      clear h2
      go_enter Tryz.func245, Tryz.ntmps245
      go_wp2_with (go_at_call 137; refine (szIntS_any _ nd.kids _ _ (HK.out _) (by omega) (by omega)).mono ?_; rintro e w' ⟨rfl, rfl⟩; rw [HL.out])
      go_ret
      exact ⟨ret_int (by rw [leftOf, if_neg (by unfold ndSize; omega)]; unfold ndSize; omega), (Below.refl _ _).alloc (Nat.le_refl _) _⟩

set_option maxHeartbeats 1000000 in
theorem szLNodeS_any (v : Value) (ns : List Nd) (left : Int) (w : World) (hns : NodesAt w v ns) (hsz : ∀ nd ∈ ns, nd.s.size ≤ maxLen) (h0 : 0 ≤ left) (h1 : left ≤ 1048576) :
    Calls Tryz.prog 207 #[v, .int .i64 left] w fun e w' => e = .returned (.int .i64 (leftOf left (ns.length + nsSum ns))) ∧ Below w.heap.size w w' := by
  obtain ⟨a, cap, rfl, hlc, hcm, hnode⟩ := hns
  unfold maxLen at hcm
  by_cases h : left < ns.length
  · go_enter Tryz.func207, Tryz.ntmps207
    go_wp2_with fail
    go_ret
    exact ⟨ret_int (by rw [leftOf, if_pos (by omega)]), Below.refl _ _⟩
  have HN : Hid (0 < ns.length → ∃ b off, a = some ⟨b, off, none⟩ ∧ ∀ i (h : i < ns.length), NodeAt w b (off + i * 3) ns[i]) := hnode
  have HZ : Hid (∀ nd ∈ ns, nd.s.size ≤ maxLen) := hsz
  have d0 : decide (left - (ns.length : Int) < 0) = false := by simp; omega
  clear hnode hsz
  go_enter Tryz.func207, Tryz.ntmps207
  go_wp2_with fail
  go_loopw [1, 5] (fun l i wr => ∃ k : Nat, k ≤ ns.length ∧ i = .int .i64 k ∧ (nsSum (ns.take k) : Int) ≤ left - ns.length ∧ l = .int .i64 (left - ns.length - nsSum (ns.take k)) ∧ Below w.heap.size w wr) (fun _ i _ => ns.length - (intOf i).toNat)
  case atStart => exact ⟨0, by omega, rfl, by simp [nsSum]; omega, by simp [nsSum], Below.refl _ _⟩
  case round =>
    obtain ⟨k, hk, rfl, hsum, rfl, hbel⟩ := hrel
    by_cases hlt : k < ns.length
    · obtain ⟨b, off, ha, hc⟩ := HN.out (by omega)
      subst ha
      have hnd := hc k hlt
      have hsnoc := nsSum_snoc ns k hlt
      have hsl := HZ.out ns[k] (by simp)
      have hle := nsSum_le ns (k + 1)
      generalize ns[k] = nd at *
      obtain ⟨c1, c2, kv, c3, hkv⟩ := hnd
      have c1' := hbel.cell (p := ⟨b, off + k * 3, none⟩) (lt_cell c1)
      have c2' := hbel.cell (p := ⟨b, off + k * 3 + 1, none⟩) (lt_cell c2)
      have c3' := hbel.cell (p := ⟨b, off + k * 3 + 2, none⟩) (lt_cell c3)
      rw [c1] at c1'
      rw [c2] at c2'
      rw [c3] at c3'
      clear hc c1 c2 c3
      have HS : Hid (nsSum (ns.take (k + 1)) = nsSum (ns.take k) + ndSize nd) := hsnoc
      clear hsnoc
      have hkv' := hkv.keep (w' := wr) hbel
      obtain ⟨L, hL⟩ : ∃ L : Int, L = left - ns.length - nsSum (ns.take k) := ⟨_, rfl⟩
      rw [← hL]
      have hL0 : 0 ≤ L := by omega
      have hL1 : L ≤ 1048576 := by omega
      have HLL : Hid (L = left - ns.length - nsSum (ns.take k)) := hL
      clear hL
      by_cases h3 : L < ndSize nd
      · have HL : Hid (leftOf L (ndSize nd) = -1) := by show leftOf _ _ = _; rw [leftOf, if_pos h3]
        go_wp2_with (go_at_call 245; refine (szLNode_any nd kv _ _ hsl hkv' hL0 hL1).mono ?_; rintro e w' ⟨rfl, hb2⟩; rw [HL.out])
        go_ret
        have := HLL.out; have := HS.out
        exact ⟨ret_int (by rw [leftOf, if_pos (by omega)]), hbel.trans (hb2.mono hbel.size)⟩
      · have HL : Hid (leftOf L (ndSize nd) = L - ndSize nd) := by show leftOf _ _ = _; rw [leftOf, if_neg h3]
        have hge : (ndSize nd : Int) ≤ L := by omega
        go_wp2_with (go_at_call 245; refine (szLNode_any nd kv _ _ hsl hkv' hL0 hL1).mono ?_; rintro e w' ⟨rfl, hb2⟩; rw [HL.out])
        go_roundw
        case rel =>
          have := HLL.out; have := HS.out
          exact ⟨k + 1, by omega, by go_num, by omega, by rw [show L - ndSize nd = left - ns.length - nsSum (ns.take (k + 1)) from by omega], hbel.trans (hb2.mono hbel.size)⟩
        case measure => simp [intOf]; omega
    · have hke : ns.take k = ns := List.take_of_length_le (by omega)
      rw [hke] at hsum ⊢
      clear hke
      go_wp2_with fail
      go_ret
      exact ⟨ret_int (by rw [leftOf, if_neg (by omega)]; omega), hbel⟩

set_option maxHeartbeats 1000000 in
theorem szLevel_any (v : Value) (ns : List Nd) (left : Int) (w : World) (hns : NodesAt w v ns) (hsz : ∀ nd ∈ ns, nd.s.size ≤ maxLen) (h0 : 0 ≤ left) (h1 : left ≤ 1048576) :
    Calls Tryz.prog 174 #[.agg #[v], .int .i64 left] w fun e w' => e = .returned (.int .i64 (leftOf left (ns.length + nsSum ns))) ∧ Below w.heap.size w w' := by
  have HN : Hid (∀ o, NodesAt (w.alloc o) v ns) := fun o => hns.keep ((Below.refl w.heap.size w).alloc (Nat.le_refl _) o)
  have HZ : Hid (∀ nd ∈ ns, nd.s.size ≤ maxLen) := hsz
  obtain ⟨a, cap, rfl, hlc, hcm, _⟩ := hns
  clear hsz
  by_cases h : left < (ns.length + nsSum ns : Nat)
  · have HL : Hid (leftOf left (ns.length + nsSum ns) = -1) := by show leftOf _ _ = _; rw [leftOf, if_pos h]
    clear h
    rw [HL.out]
    go_enter Tryz.func174, Tryz.ntmps174
    go_wp2_with (go_at_call 207; refine (szLNodeS_any _ ns _ _ (HN.out _) HZ.out h0 h1).mono ?_; rintro e w' ⟨rfl, hb2⟩; rw [HL.out])
    go_ret
    exact ⟨rfl, ((Below.refl _ _).alloc (Nat.le_refl _) _).trans (hb2.mono (by simp))⟩
  · have HL : Hid (leftOf left (ns.length + nsSum ns) = left - (ns.length + nsSum ns : Nat)) := by show leftOf _ _ = _; rw [leftOf, if_neg h]
    obtain ⟨M, hM⟩ : ∃ M : Int, M = left - (ns.length + nsSum ns : Nat) := ⟨_, rfl⟩
    have hM0 : 0 ≤ M := by omega
    have HM : Hid (leftOf left (ns.length + nsSum ns) = M) := by show leftOf _ _ = _; rw [HL.out, hM]
    clear h HL hM
    rw [HM.out]
    go_enter Tryz.func174, Tryz.ntmps174
    go_wp2_with (go_at_call 207; refine (szLNodeS_any _ ns _ _ (HN.out _) HZ.out h0 h1).mono ?_; rintro e w' ⟨rfl, hb2⟩; rw [HM.out])
    go_ret
    exact ⟨rfl, ((Below.refl _ _).alloc (Nat.le_refl _) _).trans (hb2.mono (by simp))⟩
end Go.Proofs.YtpmpooekpeocdaaGreat
