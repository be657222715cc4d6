/- What the two functions NameOk answer (the specification's and the program's): the same function of the text's bytes, whatever the text. -/
import Derived.Test.YtmdcdapjjodpiaaDoorShort
import Derived.Test.YtmdcdapjjodpiaaDoorCut
namespace Go.Proofs.YtmdcdapjjodpiaaDoor
open Go.ChangeShapes Go.WideShapes Go.ChangeAt Go.RowKit

def shortL (l : List UInt8) : Bool := decide (1 ≤ l.length) && decide (l.length ≤ 40) && headOk l && l.all goesC
theorem shortB_eq (s : ByteArray) : shortB s = shortL s.data.toList := by simp [shortB, shortL]
theorem shortB_mk (l : List UInt8) : shortB ⟨l.toArray⟩ = shortL l := by rw [shortB_eq]
def nameB (s : ByteArray) : Bool := decide (s.size ≤ 40) && (parts s.data.toList).all shortL

theorem row_slice {W : World} {base : Nat} {e : TypeId} {size : Nat} {v : Value} {n : Nat} {xs : List Value} (h : W.ownsRow base e size v n xs) (hn : 0 < n) : ∃ g cap, v = .slice (some ⟨g, 0, none⟩) n cap := by
  rcases h.2 with ⟨_, h0⟩ | ⟨g, cap, _, hv, _⟩
  · omega
  · exact ⟨g, cap, hv⟩
theorem parts_pos (l : List UInt8) : 0 < (parts l).length := by
  cases l with
  | nil => simp [parts]
  | cons c l =>
    unfold parts
    split
    · simp
    · split <;> simp
theorem parts_short (l : List UInt8) : ∀ p ∈ parts l, p.length ≤ l.length := by
  induction l with
  | nil => simp [parts]
  | cons c l ih =>
    intro p hp
    unfold parts at hp
    split at hp
    · rcases List.mem_cons.1 hp with rfl | h
      · simp
      · have := ih p h; simp; omega
    · split at hp
      · simp at hp; subst hp; simp
      · rename_i q qs he
        rcases List.mem_cons.1 hp with rfl | h
        · have := ih q (by rw [he]; simp); simp; omega
        · have := ih p (by rw [he]; simp [h]); simp; omega

set_option maxHeartbeats 1000000 in
theorem specName_any (s : ByteArray) (w : World) (hs : s.size ≤ maxLen) :
    Calls Tryd.prog 24 #[.string s] w fun e w' => e = .returned (.bool (nameB s)) ∧ Below w.heap.size w w' := by
  unfold maxLen at hs
  by_cases h2 : 40 < s.size
  · go_enter Tryd.func24, Tryd.ntmps24
    go_wp2_with fail
    go_ret
    exact ⟨ret_bool (by simp [nameB]; omega), Below.refl _ _⟩
  have HF : Hid (nameB s = (parts s.data.toList).all shortL) := by show nameB s = _; simp [nameB]; omega
  have hpp := parts_pos s.data.toList
  have hpl := parts_len s.data.toList
  have HS : Hid (∀ p ∈ parts s.data.toList, p.length ≤ s.data.toList.length) := parts_short s.data.toList
  have hz : s.data.toList.length = s.size := by simp
  rw [hz] at hpl
  go_enter Tryd.func24, Tryd.ntmps24
  go_wp2_with (go_at_call 40; refine (l1Cut_any _ _ (by omega)).mono ?_; rintro e w1 ⟨v, rfl, hown, hbel⟩)
  generalize hP : parts s.data.toList = P at *
  obtain ⟨g, cap, hv⟩ := row_slice hown hpp
  rw [hv] at hown ⊢
  have hcell : ∀ j (h : j < P.length), w1.cell? ⟨g, j, none⟩ = some (strV P[j]) := by
    intro j h
    rw [hown.cellAt j (by omega)]
    simp [h]
  clear hP hown hv
  go_wp2_with fail
  go_loop [4] (fun i => ∃ k : Nat, k ≤ P.length ∧ i = .int .i64 k ∧ Hid ((P.take k).all shortL = true)) (fun i => P.length - (intOf i).toNat)
  case atStart => exact ⟨0, Nat.zero_le _, rfl, rfl⟩
  case round =>
    obtain ⟨k, hk, rfl, HA⟩ := hrel
    by_cases hlt : k < P.length
    · have hc := hcell k hlt
      unfold strV at hc
      have hsz : (⟨P[k].toArray⟩ : ByteArray).size ≤ maxLen := by
        have := HS.out P[k] (by simp)
        show P[k].toArray.size ≤ maxLen
        unfold maxLen; simp; omega
      cases hg : shortL P[k]
      · have HG : Hid (shortB ⟨P[k].toArray⟩ = false) := by show _ = false; rw [shortB_mk, hg]
        have HN : Hid (P.all shortL = false) := by
          show _ = false
          rw [List.all_eq_false]; exact ⟨P[k], by simp, by simp [hg]⟩
        clear hcell hg
        go_wp2_with (go_at_call 41; refine (specShort_any _ _ hsz).mono ?_; rintro e w' ⟨rfl, rfl⟩; rw [HG.out])
        go_ret
        exact ⟨ret_bool (by rw [HF.out, HN.out]), hbel⟩
      · have HG : Hid (shortB ⟨P[k].toArray⟩ = true) := by show _ = true; rw [shortB_mk, hg]
        have HN : Hid ((P.take (k + 1)).all shortL = true) := by
          show _ = true
          rw [List.take_succ_eq_append_getElem hlt, List.all_append, HA.out]; simp [hg]
        clear hcell hg
        go_wp2_with (go_at_call 41; refine (specShort_any _ _ hsz).mono ?_; rintro e w' ⟨rfl, rfl⟩; rw [HG.out])
        go_round
        case rel => exact ⟨k + 1, by omega, by go_num, HN⟩
        case measure => simp [intOf]; omega
    · have HN : Hid (P.all shortL = true) := by
        have := HA.out
        rwa [List.take_of_length_le (by omega)] at this
      clear hcell
      go_wp2_with fail
      go_ret
      exact ⟨ret_bool (by rw [HF.out, HN.out]), hbel⟩

def strLen : Value → Nat | .string r => r.size | _ => 0

set_option maxHeartbeats 1000000 in
theorem implName_any (s : ByteArray) (w : World) (hs : s.size ≤ maxLen) :
    Calls Tryd.prog 45 #[.string s] w fun e w' => e = .returned (.bool (nameB s)) ∧ Below w.heap.size w w' := by
  unfold maxLen at hs
  by_cases h2 : 40 < s.size
  · go_enter Tryd.func45, Tryd.ntmps45
    go_wp2_with fail
    go_ret
    exact ⟨ret_bool (by simp [nameB]; omega), Below.refl _ _⟩
  have HF : Hid (nameB s = (parts s.data.toList).all shortL) := by show nameB s = _; simp [nameB]; omega
  have d2 : decide (40 < (s.size : Int)) = false := by simp; omega
  go_enter Tryd.func45, Tryd.ntmps45
  go_wp2_with fail
  go_loopw [0] (fun o wr => ∃ r : ByteArray, r.size ≤ 40 ∧ o = .string r ∧ Hid ((parts s.data.toList).all shortL = (parts r.data.toList).all shortL) ∧ ∃ n, wr = w.drewN n) (fun o _ => strLen o)
  case atStart => exact ⟨s, by omega, rfl, rfl, 0, rfl⟩
  case round =>
    obtain ⟨r, hr, rfl, HR, n, rfl⟩ := hrel
    have hr2 : r.size ≤ maxLen := by unfold maxLen; omega
    have hlen : r.data.toList.length = r.size := by simp
    by_cases hp : Lib.indexByte r.data.toList 46 < 0
    · have hm := index_miss _ hp
      have HP : Hid ((parts r.data.toList).all shortL = shortB r) := by show _ = _; rw [parts_none _ hm, shortB_eq]; simp
      clear hp
      cases hsr : shortB r
      all_goals
        go_wp2_with (first | (go_at_call 49; refine (cut_miss _ _ hm).mono ?_; rintro e w' ⟨rfl, n2, rfl⟩) | (go_at_call 50; refine (implShort_any _ _ hr2).mono ?_; rintro e w' ⟨rfl, rfl⟩))
        go_ret
        exact ⟨ret_bool (by rw [HF.out, HR.out, HP.out, hsr]), below_drewN (Below.refl _ _) _⟩
    · obtain ⟨i, hi⟩ : ∃ i : Nat, Lib.indexByte r.data.toList 46 = i := ⟨(Lib.indexByte r.data.toList 46).toNat, by omega⟩
      have HI : Hid (Lib.indexByte r.data.toList 46 = i) := hi
      obtain ⟨h1, h3, h4⟩ := index_hit _ i hi
      have e1 : (r.extract 0 i).data.toList = r.data.toList.take i := by rw [Lib.extract_data]; simp
      have e2 : (r.extract (i + 1) r.size).data.toList = r.data.toList.drop (i + 1) := by
        rw [Lib.extract_data, List.take_of_length_le (by simp)]
      have HP : Hid ((parts r.data.toList).all shortL = (shortB (r.extract 0 i) && (parts (r.extract (i + 1) r.size).data.toList).all shortL)) := by
        show _ = _
        rw [shortB_eq, e1, e2]
        conv => lhs; rw [h4]
        rw [parts_at _ _ h3]; rfl
      have z1 : (r.extract 0 i).size ≤ maxLen := by rw [← ByteArray.size_data, ← Array.length_toList, e1]; unfold maxLen; simp; omega
      have z2 : (r.extract (i + 1) r.size).size ≤ 40 ∧ (r.extract (i + 1) r.size).size < r.size := by
        rw [← ByteArray.size_data, ← Array.length_toList, e2]; simp; omega
      obtain ⟨z2, z3⟩ := z2
      clear hi hp e1 e2 h3 h4
      generalize hA : r.extract 0 i = A at *
      generalize hB : r.extract (i + 1) r.size = B at *
      have HA : Hid (r.extract 0 i = A) := hA
      have HB : Hid (r.extract (i + 1) r.size = B) := hB
      clear hA hB
      cases hsr : shortB A
      all_goals
        go_wp2_with (first | (go_at_call 49; refine (cut_hit _ i _ hr2 HI.out).mono ?_; rintro e w' ⟨rfl, n2, rfl⟩; rw [HA.out, HB.out]) | (go_at_call 50; refine (implShort_any _ _ z1).mono ?_; rintro e w' ⟨rfl, rfl⟩))
      · go_ret
        exact ⟨ret_bool (by rw [HF.out, HR.out, HP.out, hsr]; rfl), below_drewN (Below.refl _ _) _⟩
      · go_roundw
        case rel =>
          have HQ : Hid ((parts s.data.toList).all shortL = (parts B.data.toList).all shortL) := by show _ = _; rw [HR.out, HP.out, hsr]; rfl
          exact ⟨B, z2, rfl, HQ, _, rfl⟩
        case measure => simp [strLen]; omega
end Go.Proofs.YtmdcdapjjodpiaaDoor
