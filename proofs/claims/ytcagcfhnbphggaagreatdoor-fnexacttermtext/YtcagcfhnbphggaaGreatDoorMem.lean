/- What the small tests on one byte answer, on both sides: each is one function of the byte's number, whatever the number. -/
import Derived.Test.YtcagcfhnbphggaaGreatDoorRows
import Derived.WalkKit
import Derived.ProofKit
import Derived.WalkLawsBesides
import Derived.WalkSpells
import Derived.Deep.Draws
namespace Go.Proofs.YtcagcfhnbphggaaGreatDoor
open Go.ChangeShapes Go.WideShapes Go.ChangeAt Go.RowKit

def letB (n : Int) : Bool := (decide (97 ≤ n) && decide (n ≤ 122)) || (decide (65 ≤ n) && decide (n ≤ 90)) || decide (n = 95)
def digB (n : Int) : Bool := decide (48 ≤ n) && decide (n ≤ 57)
def alfB (n : Int) : Bool := (decide (97 ≤ n) && decide (n ≤ 122)) || (decide (65 ≤ n) && decide (n ≤ 90))
def goesB (n : Int) : Bool := letB n || digB n || decide (n = 39)

theorem ret_bool {a b : Bool} (h : a = b) : Ending.returned (.bool a) = .returned (.bool b) := by rw [h]

set_option maxHeartbeats 400000 in
theorem l1Letter_any (n : Int) (w : World) : Calls Tryz.prog 64 #[.int .u8 n] w fun e w' => e = .returned (.bool (letB n)) ∧ w' = w := by
  go_enter Tryz.func64, Tryz.ntmps64
  go_wp2
  all_goals
    go_ret
    exact ⟨ret_bool (by rw [Bool.eq_iff_iff]; simp [letB]; omega), rfl⟩
set_option maxHeartbeats 400000 in
theorem l1Digit_any (n : Int) (w : World) : Calls Tryz.prog 65 #[.int .u8 n] w fun e w' => e = .returned (.bool (digB n)) ∧ w' = w := by
  go_enter Tryz.func65, Tryz.ntmps65
  go_wp2
  all_goals
    go_ret
    exact ⟨ret_bool (by rw [Bool.eq_iff_iff]; simp [digB]; omega), rfl⟩
set_option maxHeartbeats 400000 in
theorem isLetter_any (n : Int) (w : World) : Calls Tryz.prog 96 #[.int .u8 n] w fun e w' => e = .returned (.bool (alfB n)) ∧ w' = w := by
  go_enter Tryz.func96, Tryz.ntmps96
  go_wp2
  all_goals
    go_ret
    exact ⟨ret_bool (by rw [Bool.eq_iff_iff]; simp [alfB]; omega), rfl⟩
set_option maxHeartbeats 400000 in
theorem isDigit_any (n : Int) (w : World) : Calls Tryz.prog 97 #[.int .u8 n] w fun e w' => e = .returned (.bool (digB n)) ∧ w' = w := by
  go_enter Tryz.func97, Tryz.ntmps97
  go_wp2
  all_goals
    go_ret
    exact ⟨ret_bool (by rw [Bool.eq_iff_iff]; simp [digB]; omega), rfl⟩
set_option maxHeartbeats 400000 in
theorem beginsName_any (n : Int) (w : World) : Calls Tryz.prog 84 #[.int .u8 n] w fun e w' => e = .returned (.bool (letB n)) ∧ w' = w := by
  cases h : alfB n
  all_goals
    go_enter Tryz.func84, Tryz.ntmps84
    go_wp2_with (go_at_call 96; refine (isLetter_any _ _).mono ?_; rintro e w' ⟨rfl, rfl⟩)
  all_goals
    go_ret
    exact ⟨ret_bool (by rw [Bool.eq_iff_iff]; simp [alfB] at h; simp [letB]; omega), rfl⟩
set_option maxHeartbeats 400000 in
theorem goesOnName_any (n : Int) (w : World) : Calls Tryz.prog 85 #[.int .u8 n] w fun e w' => e = .returned (.bool (goesB n)) ∧ w' = w := by
  cases h : letB n <;> cases h2 : digB n
  all_goals
    go_enter Tryz.func85, Tryz.ntmps85
    go_wp2_with (first | (go_at_call 84; refine (beginsName_any _ _).mono ?_; rintro e w' ⟨rfl, rfl⟩) | (go_at_call 97; refine (isDigit_any _ _).mono ?_; rintro e w' ⟨rfl, rfl⟩))
  all_goals
    go_ret
    exact ⟨ret_bool (by rw [Bool.eq_iff_iff]; simp [goesB, h, h2]), rfl⟩
end Go.Proofs.YtcagcfhnbphggaaGreatDoor

/- What the two functions ShortOk answer (the specification's and the program's): the same function of the text's bytes, whatever the text. -/
namespace Go.Proofs.YtcagcfhnbphggaaGreatDoor
open Go.ChangeShapes Go.WideShapes Go.ChangeAt Go.RowKit

def goesC (c : UInt8) : Bool := goesB (c.toNat : Int)
def headOk (l : List UInt8) : Bool := match l with | [] => false | c :: _ => letB (c.toNat : Int)
def shortB (s : ByteArray) : Bool := decide (1 ≤ s.size) && decide (s.size ≤ 40) && headOk s.data.toList && s.data.toList.all goesC

theorem head_of (s : ByteArray) (h : 0 < s.size) : headOk s.data.toList = letB (s[0].toNat : Int) := by
  have e : s.data.toList = s[0] :: s.data.toList.tail := by
    have hl : 0 < s.data.toList.length := by simpa using h
    rw [← List.cons_head_tail (List.ne_nil_of_length_pos hl)]
    simp [List.head_eq_getElem]
    rfl
  rw [e]; rfl
theorem take_snoc (s : ByteArray) (k : Nat) (h : k < s.size) : s.data.toList.take (k + 1) = s.data.toList.take k ++ [s[k]] := by
  rw [List.take_succ_eq_append_getElem (by simpa using h)]; rfl
theorem all_snoc (s : ByteArray) (k : Nat) (h : k < s.size) (ha : (s.data.toList.take k).all goesC = true) (hc : goesB (s[k].toNat : Int) = true) :
    (s.data.toList.take (k + 1)).all goesC = true := by
  rw [take_snoc s k h, List.all_append, ha]; simp [goesC, hc]
theorem all_not (s : ByteArray) (k : Nat) (h : k < s.size) (hc : goesB (s[k].toNat : Int) = false) : s.data.toList.all goesC = false := by
  rw [List.all_eq_false]
  exact ⟨s[k], by show s.data[k] ∈ s.data.toList; simp, by simp [goesC, hc]⟩
theorem all_end (s : ByteArray) (k : Nat) (h : s.size ≤ k) (ha : (s.data.toList.take k).all goesC = true) : s.data.toList.all goesC = true := by
  rwa [List.take_of_length_le (by simpa using h)] at ha

set_option maxHeartbeats 400000 in
theorem specShort_any (s : ByteArray) (w : World) (hs : s.size ≤ maxLen) : Calls Tryz.prog 43 #[.string s] w fun e w' => e = .returned (.bool (shortB s)) ∧ w' = w := by
  unfold maxLen at hs
  by_cases h1 : s.size < 1
  · go_enter Tryz.func43, Tryz.ntmps43
    go_wp2
    go_ret
    exact ⟨ret_bool (by simp [shortB]; omega), rfl⟩
  by_cases h2 : 40 < s.size
  · go_enter Tryz.func43, Tryz.ntmps43
    go_wp2
    go_ret
    exact ⟨ret_bool (by simp [shortB]; omega), rfl⟩
  have h0 : 0 < s.size := by omega
  have hh := head_of s h0
  have d1 : decide ((s.size : Int) < 1) = false := by simp; omega
  have d2 : decide (40 < (s.size : Int)) = false := by simp; omega
  cases hb : letB (s[0].toNat : Int)
  · have HF : Hid (shortB s = false) := by rw [hb] at hh; show shortB s = false; simp [shortB, hh]
    clear hh
    go_enter Tryz.func43, Tryz.ntmps43
    go_wp2_with (go_at_call 64; refine (l1Letter_any _ _).mono ?_; rintro e w' ⟨rfl, rfl⟩)
    go_ret
    exact ⟨ret_bool HF.out.symm, rfl⟩
  · have HF : Hid (shortB s = s.data.toList.all goesC) := by
      rw [hb] at hh; show shortB s = _; simp [shortB, hh]; omega
    clear hh
    go_enter Tryz.func43, Tryz.ntmps43
    go_wp2_with (go_at_call 64; refine (l1Letter_any _ _).mono ?_; rintro e w' ⟨rfl, rfl⟩)
    go_loop [3] (fun i => ∃ k : Nat, k ≤ s.size ∧ i = .int .i64 k ∧ Hid ((s.data.toList.take k).all goesC = true)) (fun i => s.size - (intOf i).toNat)
    case atStart => exact ⟨0, Nat.zero_le _, rfl, rfl⟩
    case round =>
      obtain ⟨k, hk, rfl, HA⟩ := hrel
      by_cases hlt : k < s.size
      · cases hg : goesB (s[k].toNat : Int)
        · have HN : Hid (s.data.toList.all goesC = false) := all_not s k hlt hg
          obtain ⟨hl, hd, hq⟩ : letB (s[k].toNat : Int) = false ∧ digB (s[k].toNat : Int) = false ∧ ((s[k].toNat : Int) != 39) = true := by
            simp [goesB] at hg; simp; exact ⟨hg.1.1, hg.1.2, by omega⟩
          clear hg
          go_wp2_with (first | (go_at_call 64; refine (l1Letter_any _ _).mono ?_; rintro e w' ⟨rfl, rfl⟩) | (go_at_call 65; refine (l1Digit_any _ _).mono ?_; rintro e w' ⟨rfl, rfl⟩))
          go_ret
          exact ⟨ret_bool (by rw [HF.out, HN.out]), rfl⟩
        · have HN : Hid ((s.data.toList.take (k + 1)).all goesC = true) := all_snoc s k hlt HA.out hg
          cases hl : letB (s[k].toNat : Int)
          · cases hd : digB (s[k].toNat : Int)
            · have hq : ((s[k].toNat : Int) != 39) = false := by
                simp [goesB, hl, hd] at hg; simp; omega
              clear hg
              go_wp2_with (first | (go_at_call 64; refine (l1Letter_any _ _).mono ?_; rintro e w' ⟨rfl, rfl⟩) | (go_at_call 65; refine (l1Digit_any _ _).mono ?_; rintro e w' ⟨rfl, rfl⟩))
              go_round
              case rel => exact ⟨k + 1, by omega, by go_num, HN⟩
              case measure => simp [intOf]; omega
            · clear hg
              go_wp2_with (first | (go_at_call 64; refine (l1Letter_any _ _).mono ?_; rintro e w' ⟨rfl, rfl⟩) | (go_at_call 65; refine (l1Digit_any _ _).mono ?_; rintro e w' ⟨rfl, rfl⟩))
              go_round
              case rel => exact ⟨k + 1, by omega, by go_num, HN⟩
              case measure => simp [intOf]; omega
          · clear hg
            go_wp2_with (first | (go_at_call 64; refine (l1Letter_any _ _).mono ?_; rintro e w' ⟨rfl, rfl⟩) | (go_at_call 65; refine (l1Digit_any _ _).mono ?_; rintro e w' ⟨rfl, rfl⟩))
            go_round
            case rel => exact ⟨k + 1, by omega, by go_num, HN⟩
            case measure => simp [intOf]; omega
      · have HE := all_end s k (by omega) HA.out
        have HN : Hid (s.data.toList.all goesC = true) := HE
        clear HE
        go_wp2_with fail
        go_ret
        exact ⟨ret_bool (by rw [HF.out, HN.out]), rfl⟩

set_option maxHeartbeats 400000 in
theorem implShort_any (s : ByteArray) (w : World) (hs : s.size ≤ maxLen) : Calls Tryz.prog 70 #[.string s] w fun e w' => e = .returned (.bool (shortB s)) ∧ w' = w := by
  unfold maxLen at hs
  by_cases h1 : s.size = 0
  · have HF : Hid (shortB s = false) := by show shortB s = false; simp [shortB, h1]
    have d1 : ((s.size : Int) == 0) = true := beq_iff_eq.2 (by omega)
    clear h1
    go_enter Tryz.func70, Tryz.ntmps70
    go_wp2
    go_ret
    exact ⟨ret_bool HF.out.symm, rfl⟩
  have d1 : ((s.size : Int) == 0) = false := beq_eq_false_iff_ne.2 (by omega)
  by_cases h2 : 40 < s.size
  · go_enter Tryz.func70, Tryz.ntmps70
    go_wp2
    go_ret
    exact ⟨ret_bool (by simp [shortB]; omega), rfl⟩
  have h0 : 0 < s.size := by omega
  have hh := head_of s h0
  have d2 : decide (40 < (s.size : Int)) = false := by simp; omega
  cases hb : letB (s[0].toNat : Int)
  · have HF : Hid (shortB s = false) := by rw [hb] at hh; show shortB s = false; simp [shortB, hh]
    clear hh
    go_enter Tryz.func70, Tryz.ntmps70
    go_wp2_with (go_at_call 84; refine (beginsName_any _ _).mono ?_; rintro e w' ⟨rfl, rfl⟩)
    go_ret
    exact ⟨ret_bool HF.out.symm, rfl⟩
  · have HF : Hid (shortB s = s.data.toList.all goesC) := by
      rw [hb] at hh; show shortB s = _; simp [shortB, hh]; omega
    clear hh
    go_enter Tryz.func70, Tryz.ntmps70
    go_wp2_with (go_at_call 84; refine (beginsName_any _ _).mono ?_; rintro e w' ⟨rfl, rfl⟩)
    go_loop [20] (fun i => ∃ k : Nat, k ≤ s.size ∧ i = .int .i64 k ∧ Hid ((s.data.toList.take k).all goesC = true)) (fun i => s.size - (intOf i).toNat)
    case atStart => exact ⟨0, Nat.zero_le _, rfl, rfl⟩
    case round =>
      obtain ⟨k, hk, rfl, HA⟩ := hrel
      by_cases hlt : k < s.size
      · cases hg : goesB (s[k].toNat : Int)
        · have HN : Hid (s.data.toList.all goesC = false) := all_not s k hlt hg
          go_wp2_with (go_at_call 85; refine (goesOnName_any _ _).mono ?_; rintro e w' ⟨rfl, rfl⟩)
          go_ret
          exact ⟨ret_bool (by rw [HF.out, HN.out]), rfl⟩
        · have HN : Hid ((s.data.toList.take (k + 1)).all goesC = true) := all_snoc s k hlt HA.out hg
          go_wp2_with (go_at_call 85; refine (goesOnName_any _ _).mono ?_; rintro e w' ⟨rfl, rfl⟩)
          go_round
          case rel => exact ⟨k + 1, by omega, by go_num, HN⟩
          case measure => simp [intOf]; omega
      · have HE := all_end s k (by omega) HA.out
        have HN : Hid (s.data.toList.all goesC = true) := HE
        clear HE
        go_wp2_with fail
        go_ret
        exact ⟨ret_bool (by rw [HF.out, HN.out]), rfl⟩
end Go.Proofs.YtcagcfhnbphggaaGreatDoor

/- How a level lies in memory: a row of nodes, each a number, a text and a row of numbers; and that what was there stays so where nothing below is written. -/
namespace Go.Proofs.YtcagcfhnbphggaaGreatDoor
open Go.ChangeShapes Go.WideShapes Go.ChangeAt Go.RowKit

/-- A node: its kind, its text, its kids. -/
structure Nd where
  k : Int
  s : ByteArray
  kids : List Int

def IntsAt (w : World) (v : Value) (ks : List Int) : Prop :=
  ∃ a cap, v = .slice a ks.length cap ∧ ks.length ≤ cap ∧ cap ≤ maxLen ∧
    (0 < ks.length → ∃ b off, a = some ⟨b, off, none⟩ ∧ ∀ j (h : j < ks.length), w.cell? ⟨b, off + j, none⟩ = some (.int .i64 ks[j]))
def NodeAt (w : World) (b o : Nat) (nd : Nd) : Prop :=
  w.cell? ⟨b, o, none⟩ = some (.int .i64 nd.k) ∧ w.cell? ⟨b, o + 1, none⟩ = some (.string nd.s) ∧ ∃ kv, w.cell? ⟨b, o + 2, none⟩ = some kv ∧ IntsAt w kv nd.kids
def NodesAt (w : World) (v : Value) (ns : List Nd) : Prop :=
  ∃ a cap, v = .slice a ns.length cap ∧ ns.length ≤ cap ∧ cap ≤ maxLen ∧
    (0 < ns.length → ∃ b off, a = some ⟨b, off, none⟩ ∧ ∀ i (h : i < ns.length), NodeAt w b (off + i * 3) ns[i])

theorem lt_cell {w : World} {b o : Nat} {v : Value} (h : w.cell? ⟨b, o, none⟩ = some v) : b < w.heap.size := World.block_lt_of_cell? w ⟨b, o, none⟩ h
theorem keep_cell {w w' : World} (hb : Below w.heap.size w w') {b o : Nat} {v : Value} (h : w.cell? ⟨b, o, none⟩ = some v) : w'.cell? ⟨b, o, none⟩ = some v := by
  rw [hb.cell (p := ⟨b, o, none⟩) (lt_cell h)]; exact h
theorem IntsAt.keep {w w' : World} (hb : Below w.heap.size w w') {v : Value} {ks : List Int} (h : IntsAt w v ks) : IntsAt w' v ks := by
  obtain ⟨a, cap, hv, h1, h2, h3⟩ := h
  refine ⟨a, cap, hv, h1, h2, fun h0 => ?_⟩
  obtain ⟨b, off, ha, hc⟩ := h3 h0
  exact ⟨b, off, ha, fun j h => keep_cell hb (hc j h)⟩
theorem NodeAt.keep {w w' : World} (hb : Below w.heap.size w w') {b o : Nat} {nd : Nd} (h : NodeAt w b o nd) : NodeAt w' b o nd := by
  obtain ⟨h1, h2, kv, h3, h4⟩ := h
  exact ⟨keep_cell hb h1, keep_cell hb h2, kv, keep_cell hb h3, h4.keep hb⟩
theorem NodesAt.keep {w w' : World} (hb : Below w.heap.size w w') {v : Value} {ns : List Nd} (h : NodesAt w v ns) : NodesAt w' v ns := by
  obtain ⟨a, cap, hv, h1, h2, h3⟩ := h
  refine ⟨a, cap, hv, h1, h2, fun h0 => ?_⟩
  obtain ⟨b, off, ha, hc⟩ := h3 h0
  exact ⟨b, off, ha, fun i h => (hc i h).keep hb⟩

/-- What szLevel counts. -/
def ndSize (nd : Nd) : Nat := nd.s.size + nd.kids.length
def nsSum : List Nd → Nat
  | [] => 0
  | nd :: l => ndSize nd + nsSum l
theorem nsSum_append (a b : List Nd) : nsSum (a ++ b) = nsSum a + nsSum b := by
  induction a with
  | nil => simp [nsSum]
  | cons x a ih => simp [nsSum, ih]; omega
theorem nsSum_snoc (ns : List Nd) (i : Nat) (h : i < ns.length) : nsSum (ns.take (i + 1)) = nsSum (ns.take i) + ndSize ns[i] := by
  rw [List.take_succ_eq_append_getElem h, nsSum_append]; simp [nsSum]
theorem nsSum_le (ns : List Nd) (i : Nat) : nsSum (ns.take i) ≤ nsSum ns := by
  conv => rhs; rw [← List.take_append_drop i ns, nsSum_append]
  omega
end Go.Proofs.YtcagcfhnbphggaaGreatDoor
