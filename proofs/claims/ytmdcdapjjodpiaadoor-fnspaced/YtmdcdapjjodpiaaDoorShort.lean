/- What the two functions ShortOk answer (the specification's and the program's): the same function of the text's bytes, whatever the text. -/
import Derived.Test.YtmdcdapjjodpiaaDoorBytes
namespace Go.Proofs.YtmdcdapjjodpiaaDoor
open Go.ChangeShapes Go.WideShapes Go.ChangeAt Go.RowKit

def goesC (c : UInt8) : Bool := goesB (c.toNat : Int)
def headOk (l : List UInt8) : Bool := match l with | [] => false | c :: _ => letB (c.toNat : Int)
def shortB (s : ByteArray) : Bool := decide (1 ≤ s.size) && decide (s.size ≤ 40) && headOk s.data.toList && s.data.toList.all goesC

theorem head_of (s : ByteArray) (h : 0 < s.size) : headOk s.data.toList = letB (s[0].toNat : Int) := by
  have e : s.data.toList = s[0] :: s.data.toList.tail := by
    have hl : 0 < s.data.toList.length := by simpa using h
    rw [← List.cons_head_tail (List.ne_nil_of_length_pos hl)]
    simp [List.head_eq_getElem]
    rfl
  rw [e]; rfl
theorem take_snoc (s : ByteArray) (k : Nat) (h : k < s.size) : s.data.toList.take (k + 1) = s.data.toList.take k ++ [s[k]] := by
  rw [List.take_succ_eq_append_getElem (by simpa using h)]; rfl
theorem all_snoc (s : ByteArray) (k : Nat) (h : k < s.size) (ha : (s.data.toList.take k).all goesC = true) (hc : goesB (s[k].toNat : Int) = true) :
    (s.data.toList.take (k + 1)).all goesC = true := by
  rw [take_snoc s k h, List.all_append, ha]; simp [goesC, hc]
theorem all_not (s : ByteArray) (k : Nat) (h : k < s.size) (hc : goesB (s[k].toNat : Int) = false) : s.data.toList.all goesC = false := by
  rw [List.all_eq_false]
  exact ⟨s[k], by show s.data[k] ∈ s.data.toList; simp, by simp [goesC, hc]⟩
theorem all_end (s : ByteArray) (k : Nat) (h : s.size ≤ k) (ha : (s.data.toList.take k).all goesC = true) : s.data.toList.all goesC = true := by
  rwa [List.take_of_length_le (by simpa using h)] at ha

set_option maxHeartbeats 400000 in
theorem specShort_any (s : ByteArray) (w : World) (hs : s.size ≤ maxLen) : Calls Tryd.prog 41 #[.string s] w fun e w' => e = .returned (.bool (shortB s)) ∧ w' = w := by
  unfold maxLen at hs
  by_cases h1 : s.size < 1
  · go_enter Tryd.func41, Tryd.ntmps41
    go_wp2
    go_ret
    exact ⟨ret_bool (by simp [shortB]; omega), rfl⟩
  by_cases h2 : 40 < s.size
  · go_enter Tryd.func41, Tryd.ntmps41
    go_wp2
    go_ret
    exact ⟨ret_bool (by simp [shortB]; omega), rfl⟩
  have h0 : 0 < s.size := by omega
  have hh := head_of s h0
  have d1 : decide ((s.size : Int) < 1) = false := by simp; omega
  have d2 : decide (40 < (s.size : Int)) = false := by simp; omega
  cases hb : letB (s[0].toNat : Int)
  · have HF : Hid (shortB s = false) := by rw [hb] at hh; show shortB s = false; simp [shortB, hh]
    clear hh
    go_enter Tryd.func41, Tryd.ntmps41
    go_wp2_with (go_at_call 20; refine (l1Letter_any _ _).mono ?_; rintro e w' ⟨rfl, rfl⟩)
    go_ret
    exact ⟨ret_bool HF.out.symm, rfl⟩
  · have HF : Hid (shortB s = s.data.toList.all goesC) := by
      rw [hb] at hh; show shortB s = _; simp [shortB, hh]; omega
    clear hh
    go_enter Tryd.func41, Tryd.ntmps41
    go_wp2_with (go_at_call 20; refine (l1Letter_any _ _).mono ?_; rintro e w' ⟨rfl, rfl⟩)
    go_loop [3] (fun i => ∃ k : Nat, k ≤ s.size ∧ i = .int .i64 k ∧ Hid ((s.data.toList.take k).all goesC = true)) (fun i => s.size - (intOf i).toNat)
    case atStart => exact ⟨0, Nat.zero_le _, rfl, rfl⟩
    case round =>
      obtain ⟨k, hk, rfl, HA⟩ := hrel
      by_cases hlt : k < s.size
      · cases hg : goesB (s[k].toNat : Int)
        · have HN : Hid (s.data.toList.all goesC = false) := all_not s k hlt hg
          obtain ⟨hl, hd, hq⟩ : letB (s[k].toNat : Int) = false ∧ digB (s[k].toNat : Int) = false ∧ ((s[k].toNat : Int) != 39) = true := by
            simp [goesB] at hg; simp; exact ⟨hg.1.1, hg.1.2, by omega⟩
          clear hg
          go_wp2_with (first | (go_at_call 20; refine (l1Letter_any _ _).mono ?_; rintro e w' ⟨rfl, rfl⟩) | (go_at_call 25; refine (l1Digit_any _ _).mono ?_; rintro e w' ⟨rfl, rfl⟩))
          go_ret
          exact ⟨ret_bool (by rw [HF.out, HN.out]), rfl⟩
        · have HN : Hid ((s.data.toList.take (k + 1)).all goesC = true) := all_snoc s k hlt HA.out hg
          cases hl : letB (s[k].toNat : Int)
          · cases hd : digB (s[k].toNat : Int)
            · have hq : ((s[k].toNat : Int) != 39) = false := by
                simp [goesB, hl, hd] at hg; simp; omega
              clear hg
              go_wp2_with (first | (go_at_call 20; refine (l1Letter_any _ _).mono ?_; rintro e w' ⟨rfl, rfl⟩) | (go_at_call 25; refine (l1Digit_any _ _).mono ?_; rintro e w' ⟨rfl, rfl⟩))
              go_round
              case rel => exact ⟨k + 1, by omega, by go_num, HN⟩
              case measure => simp [intOf]; omega
            · clear hg
              go_wp2_with (first | (go_at_call 20; refine (l1Letter_any _ _).mono ?_; rintro e w' ⟨rfl, rfl⟩) | (go_at_call 25; refine (l1Digit_any _ _).mono ?_; rintro e w' ⟨rfl, rfl⟩))
              go_round
              case rel => exact ⟨k + 1, by omega, by go_num, HN⟩
              case measure => simp [intOf]; omega
          · clear hg
            go_wp2_with (first | (go_at_call 20; refine (l1Letter_any _ _).mono ?_; rintro e w' ⟨rfl, rfl⟩) | (go_at_call 25; refine (l1Digit_any _ _).mono ?_; rintro e w' ⟨rfl, rfl⟩))
            go_round
            case rel => exact ⟨k + 1, by omega, by go_num, HN⟩
            case measure => simp [intOf]; omega
      · have HE := all_end s k (by omega) HA.out
        have HN : Hid (s.data.toList.all goesC = true) := HE
        clear HE
        go_wp2_with fail
        go_ret
        exact ⟨ret_bool (by rw [HF.out, HN.out]), rfl⟩

set_option maxHeartbeats 400000 in
theorem implShort_any (s : ByteArray) (w : World) (hs : s.size ≤ maxLen) : Calls Tryd.prog 50 #[.string s] w fun e w' => e = .returned (.bool (shortB s)) ∧ w' = w := by
  unfold maxLen at hs
  by_cases h1 : s.size = 0
  · have HF : Hid (shortB s = false) := by show shortB s = false; simp [shortB, h1]
    have d1 : ((s.size : Int) == 0) = true := beq_iff_eq.2 (by omega)
    clear h1
    go_enter Tryd.func50, Tryd.ntmps50
    go_wp2
    go_ret
    exact ⟨ret_bool HF.out.symm, rfl⟩
  have d1 : ((s.size : Int) == 0) = false := beq_eq_false_iff_ne.2 (by omega)
  by_cases h2 : 40 < s.size
  · go_enter Tryd.func50, Tryd.ntmps50
    go_wp2
    go_ret
    exact ⟨ret_bool (by simp [shortB]; omega), rfl⟩
  have h0 : 0 < s.size := by omega
  have hh := head_of s h0
  have d2 : decide (40 < (s.size : Int)) = false := by simp; omega
  cases hb : letB (s[0].toNat : Int)
  · have HF : Hid (shortB s = false) := by rw [hb] at hh; show shortB s = false; simp [shortB, hh]
    clear hh
    go_enter Tryd.func50, Tryd.ntmps50
    go_wp2_with (go_at_call 30; refine (beginsName_any _ _).mono ?_; rintro e w' ⟨rfl, rfl⟩)
    go_ret
    exact ⟨ret_bool HF.out.symm, rfl⟩
  · have HF : Hid (shortB s = s.data.toList.all goesC) := by
      rw [hb] at hh; show shortB s = _; simp [shortB, hh]; omega
    clear hh
    go_enter Tryd.func50, Tryd.ntmps50
    go_wp2_with (go_at_call 30; refine (beginsName_any _ _).mono ?_; rintro e w' ⟨rfl, rfl⟩)
    go_loop [20] (fun i => ∃ k : Nat, k ≤ s.size ∧ i = .int .i64 k ∧ Hid ((s.data.toList.take k).all goesC = true)) (fun i => s.size - (intOf i).toNat)
    case atStart => exact ⟨0, Nat.zero_le _, rfl, rfl⟩
    case round =>
      obtain ⟨k, hk, rfl, HA⟩ := hrel
      by_cases hlt : k < s.size
      · cases hg : goesB (s[k].toNat : Int)
        · have HN : Hid (s.data.toList.all goesC = false) := all_not s k hlt hg
          go_wp2_with (go_at_call 43; refine (goesOnName_any _ _).mono ?_; rintro e w' ⟨rfl, rfl⟩)
          go_ret
          exact ⟨ret_bool (by rw [HF.out, HN.out]), rfl⟩
        · have HN : Hid ((s.data.toList.take (k + 1)).all goesC = true) := all_snoc s k hlt HA.out hg
          go_wp2_with (go_at_call 43; refine (goesOnName_any _ _).mono ?_; rintro e w' ⟨rfl, rfl⟩)
          go_round
          case rel => exact ⟨k + 1, by omega, by go_num, HN⟩
          case measure => simp [intOf]; omega
      · have HE := all_end s k (by omega) HA.out
        have HN : Hid (s.data.toList.all goesC = true) := HE
        clear HE
        go_wp2_with fail
        go_ret
        exact ⟨ret_bool (by rw [HF.out, HN.out]), rfl⟩
end Go.Proofs.YtmdcdapjjodpiaaDoor
