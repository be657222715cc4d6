/- What strings.Cut answers at the separator of one dot, whatever the text: the text up to the first dot, the text behind it and true; or the text, the empty text and false. -/
import Derived.Test.YtpmpooekpeocdaaGreatParts
import Derived.Test.YtpmpooekpeocdaaGreatRows
import Derived.WalkKit
import Derived.ProofKit
import Derived.Lib.Walk
import Derived.Lib.Strings
import Derived.Lib.Slices
import Derived.Lib.Bytealg
import Derived.BigCall
import Derived.BigGuard
import Derived.Deep.Draws
import Derived.Laws.Strings3
import Derived.WalkLawsBesides
import Derived.WalkSpells
import Derived.Test.YtpmpooekpeocdaaGreatSz
namespace Go.Proofs.YtpmpooekpeocdaaGreat
open Go.ChangeShapes Go.WideShapes Go.ChangeAt Go.RowKit

set_option maxHeartbeats 1000000 in
set_option maxRecDepth 100000 in
theorem indexByte_any (s : ByteArray) (c : Int) (w : World) :
    Calls Tryz.prog 249 #[.string s, .int .u8 c] w fun e w' => e = .returned (.int .i64 (Lib.indexByte s.data.toList c.toNat.toUInt8)) ∧ w' = w := by
  go_enter Tryz.func249, Tryz.ntmps249
  go_wp2
  rw [run_callFunc_extern Tryz.func266 (by kernel_rfl) (by kernel_rfl) (by kernel_rfl) (e := Extern.BytealgIndexByte.indexByte) (by kernel_rfl), Lib.run_indexByteString]
  simp only [Result.andThen]
  rw [Oper.upon_value]
  go_wp2
  go_ret
  exact ⟨rfl, rfl⟩

set_option maxHeartbeats 2000000 in
set_option maxRecDepth 100000 in
theorem index_one (s : ByteArray) (c : UInt8) (w : World) :
    Calls Tryz.prog 210 #[.string s, .string ⟨#[c]⟩] w fun e w' => e = .returned (.int .i64 (Lib.indexByte s.data.toList c)) ∧ w' = w := by
  go_enter Tryz.func210, Tryz.ntmps210
  go_wp2_with (go_at_call 249; refine (indexByte_any _ _ _).mono ?_; rintro e w' ⟨rfl, rfl⟩)
  · have h : ([c] == s.toList) = true := by assumption
    go_ret
    refine ⟨?_, rfl⟩
    have e : s.data.toList = [c] := by rw [← Lib.toList_data]; exact (beq_iff_eq.1 h).symm
    rw [e]
    simp [Lib.indexByte]
  · go_ret
    exact ⟨rfl, rfl⟩

set_option maxHeartbeats 2000000 in
set_option maxRecDepth 100000 in
theorem cutLite_miss (s : ByteArray) (w : World) (h : 46 ∉ s.data.toList) :
    Calls Tryz.prog 178 #[.string s, .string ⟨#[46]⟩] w fun e w' => e = .returned (.tuple #[.string s, .string ⟨#[]⟩, .bool false]) ∧ ∃ n, w' = w.drewN n := by
  have hi : Lib.indexByte s.data.toList 46 = -1 := by
    have hg := Lib.indexByte_ge s.data.toList 46
    by_cases hp : 0 ≤ Lib.indexByte s.data.toList 46
    · obtain ⟨_, _, e⟩ := index_hit s.data.toList (Lib.indexByte s.data.toList 46).toNat (by omega)
      exact absurd (by rw [e]; simp) h
    · omega
  clear h
  go_enter Tryz.func178, Tryz.ntmps178
  go_wp2_with (go_at_call 210; refine (index_one _ _ _).mono ?_; rintro e w' ⟨rfl, rfl⟩; rw [hi])
  go_ret3
  exact ⟨rfl, 0, rfl⟩

set_option maxHeartbeats 2000000 in
set_option maxRecDepth 100000 in
theorem cutLite_hit (s : ByteArray) (i : Nat) (w : World) (hs : s.size ≤ maxLen) (hi : Lib.indexByte s.data.toList 46 = i) :
    Calls Tryz.prog 178 #[.string s, .string ⟨#[46]⟩] w fun e w' => e = .returned (.tuple #[.string (s.extract 0 i), .string (s.extract (i + 1) s.size), .bool true]) ∧ ∃ n, w' = w.drewN n := by
  unfold maxLen at hs
  have hroom : i < s.size := by have := (index_hit _ i hi).1; simpa using this
  have c1 : (0 : Int) ≤ ↑i := by omega
  have c2 : (↑i : Int) ≤ ↑s.size := by omega
  have c3 : (0 : Int) ≤ ↑i + 1 := by omega
  have c4 : (↑i + 1 : Int) ≤ ↑s.size := by omega
  have HI : Hid (Lib.indexByte s.data.toList 46 = i) := hi
  clear hi
  go_enter Tryz.func178, Tryz.ntmps178
  go_wp2_with (go_at_call 210; refine (index_one _ _ _).mono ?_; rintro e w' ⟨rfl, rfl⟩; rw [HI.out])
  go_region
  go_wp2
  go_ret3
  exact ⟨rfl, 1, rfl⟩

set_option maxHeartbeats 1000000 in
theorem cut_miss (s : ByteArray) (w : World) (h : 46 ∉ s.data.toList) :
    Calls Tryz.prog 147 #[.string s, .string ⟨#[46]⟩] w fun e w' => e = .returned (.tuple #[.string s, .string ⟨#[]⟩, .bool false]) ∧ ∃ n, w' = w.drewN n := by
  go_enter Tryz.func147, Tryz.ntmps147
  go_wp2_with (go_at_call 178; refine (cutLite_miss _ _ h).mono ?_; rintro e w' ⟨rfl, n, rfl⟩)
  go_ret3
  exact ⟨rfl, n, rfl⟩

set_option maxHeartbeats 1000000 in
theorem cut_hit (s : ByteArray) (i : Nat) (w : World) (hs : s.size ≤ maxLen) (hi : Lib.indexByte s.data.toList 46 = i) :
    Calls Tryz.prog 147 #[.string s, .string ⟨#[46]⟩] w fun e w' => e = .returned (.tuple #[.string (s.extract 0 i), .string (s.extract (i + 1) s.size), .bool true]) ∧ ∃ n, w' = w.drewN n := by
  have HI : Hid (Lib.indexByte s.data.toList 46 = i) := hi
  clear hi
  go_enter Tryz.func147, Tryz.ntmps147
  go_wp2_with (go_at_call 178; refine (cutLite_hit _ i _ hs HI.out).mono ?_; rintro e w' ⟨rfl, n, rfl⟩)
  go_ret3
  exact ⟨rfl, n, rfl⟩
end Go.Proofs.YtpmpooekpeocdaaGreat

/- What the specification's l1Cut answers at a text of at most 40 bytes and a dot: a new row that holds the text's parts between dots. -/
namespace Go.Proofs.YtpmpooekpeocdaaGreat
open Go.ChangeShapes Go.WideShapes Go.ChangeAt Go.RowKit

theorem Tryz.info9c : (Tryz.prog.info? 9).map (fun i => (i.zero, i.size, i.bytes)) = some (some (.string ⟨#[]⟩), 1, 16) := by kernel_rfl

def strV (l : List UInt8) : Value := .string ⟨l.toArray⟩
theorem strV_extract (s : ByteArray) (a b : Nat) : Value.string (s.extract a b) = strV ((s.data.toList.drop a).take (b - a)) := by
  unfold strV
  rw [← Lib.extract_data]

theorem byte_ne (s : ByteArray) (k : Nat) (h : k < s.size) (hn : s.data.toList[k]'(by simpa using h) ≠ 46) : ((s[k].toNat : Int) == 46) = false := by
  have e : s.data.toList[k]'(by simpa using h) = s[k] := by rw [Array.getElem_toList]; rfl
  rw [e] at hn
  rw [beq_eq_false_iff_ne]
  intro h2
  apply hn
  apply UInt8.toNat_inj.1
  show s[k].toNat = 46
  omega
theorem byte_eq (s : ByteArray) (k : Nat) (h : k < s.size) (hn : s.data.toList[k]'(by simpa using h) = 46) : ((s[k].toNat : Int) == 46) = true := by
  have e : s.data.toList[k]'(by simpa using h) = s[k] := by rw [Array.getElem_toList]; rfl
  rw [e] at hn
  rw [hn]; rfl

set_option maxHeartbeats 1000000 in
set_option maxRecDepth 20000 in
theorem l1Cut_any (s : ByteArray) (w : World) (hs : s.size ≤ 40) :
    Calls Tryz.prog 103 #[.string s, .int .u8 46] w fun e w' => ∃ v, e = .returned v ∧ w'.ownsRow w.heap.size 9 1 v (parts s.data.toList).length ((parts s.data.toList).map strV) ∧ Below w.heap.size w w' := by
  obtain ⟨i0, hi, hz0, hz1, hz2⟩ := info_parts Tryz.info9c
  go_enter Tryz.func103, Tryz.ntmps103
  go_wp2
  go_loopw [5, 6, 7] (fun o f i wr => ∃ (k fr : Nat) (ps : List (List UInt8)), k ≤ s.size + 1 ∧ fr ≤ s.size + 1 ∧ ps.length ≤ k ∧ i = .int .i64 k ∧ f = .int .i64 fr ∧ Hid (CutAt s.data.toList k fr ps) ∧ wr.ownsRow w.heap.size 9 1 o ps.length (ps.map strV) ∧ Below w.heap.size w wr) (fun _ _ i _ => s.size + 1 - (intOf i).toNat)
  case atStart => exact ⟨0, 0, [], by omega, by omega, by simp, rfl, rfl, cut_start _, World.ownsRow_made _ _ _ (Nat.le_refl _) (by unfold maxLen; omega) rfl, (Below.refl _ _).alloc (Nat.le_refl _) _⟩
  case round =>
    obtain ⟨k, fr, ps, hk, hfr, hpl, rfl, rfl, HC, hown, hbel⟩ := hrel
    by_cases hlast : k = s.size + 1
    · have hge : (s.size : Int) < k := by omega
      have HE : Hid (parts s.data.toList = ps) := by
        have := HC.out
        rw [hlast, show s.size + 1 = s.data.toList.length + 1 from by simp] at this
        exact cut_end this
      clear hlast HC
      go_wp2
      go_ret
      exact ⟨_, rfl, by rw [HE.out]; exact hown, hbel⟩
    · have hle : (k : Int) ≤ s.size := by omega
      by_cases hend : k = s.size
      · have hq : ((k : Int) == (s.size : Int)) = true := beq_iff_eq.2 (by omega)
        have hlen : s.data.toList.length = s.size := by simp
        obtain ⟨hfk, hnext⟩ : fr ≤ k ∧ CutAt s.data.toList (k + 1) (k + 1) (ps ++ [(s.data.toList.drop fr).take (k - fr)]) := by
          have := HC.out
          rw [hend, ← hlen] at this ⊢
          exact cut_last this
        have HN : Hid (CutAt s.data.toList (k + 1) (k + 1) (ps ++ [(s.data.toList.drop fr).take (k - fr)])) := hnext
        clear hnext hend HC hlast hlen
        go_wp2_with (at_builtin; refine wpList_append_own _ rfl _ _ 22 rfl w.heap.size 9 i0 (.string ⟨#[]⟩) 1 16 Tryz.underlying22 hi hz0 hz1 hz2 rfl (by decide) _ _ _ rfl (hown.alloc _) ⟨wr.heap.size, 0, none⟩ 1 1 [.string (s.extract fr k)] rfl rfl ?c1 ?c2 ?c3 ?c4 ?c5 ?_)
        case c1 => exact cell_one_new _ _ _
        case c2 => first | rfl | (intro u hu; simp at hu; subst hu; rfl)
        case c3 => unfold maxLen; omega
        case c4 => omega
        case c5 => have := hbel.size; simp; omega
        intro v' w2 hown' hgrow' _
        have hown2 : w2.ownsRow w.heap.size 9 1 v' (ps ++ [(s.data.toList.drop fr).take (k - fr)]).length ((ps ++ [(s.data.toList.drop fr).take (k - fr)]).map strV) := by
          rw [strV_extract] at hown'; simpa using hown'
        have hbel2 : Below w.heap.size w w2 := (hbel.alloc hbel.size _).grown hgrow' (by have := hbel.size; simp; omega) (fun j hj => (hown.lt j hj).1)
        clear hown' hgrow' hown
        go_wp2
        go_roundw
        case rel => exact ⟨k + 1, k + 1, _, by omega, by omega, by simp; omega, by go_num, by go_num, HN, hown2, hbel2⟩
        case measure => simp [intOf]; omega
      · have hq : ((k : Int) == (s.size : Int)) = false := beq_eq_false_iff_ne.2 (by omega)
        have hlt : k < s.size := by omega
        have hkl : k < s.data.toList.length := by simpa using hlt
        by_cases hdot : s.data.toList[k]'hkl = 46
        · have hb := byte_eq s k hlt hdot
          obtain ⟨hfk, hnext⟩ := cut_dot hkl HC.out hdot
          have HN : Hid (CutAt s.data.toList (k + 1) (k + 1) (ps ++ [(s.data.toList.drop fr).take (k - fr)])) := hnext
          clear hnext hend HC hlast hkl hdot
          go_wp2_with (at_builtin; refine wpList_append_own _ rfl _ _ 22 rfl w.heap.size 9 i0 (.string ⟨#[]⟩) 1 16 Tryz.underlying22 hi hz0 hz1 hz2 rfl (by decide) _ _ _ rfl (hown.alloc _) ⟨wr.heap.size, 0, none⟩ 1 1 [.string (s.extract fr k)] rfl rfl ?c1 ?c2 ?c3 ?c4 ?c5 ?_)
          case c1 => exact cell_one_new _ _ _
          case c2 => first | rfl | (intro u hu; simp at hu; subst hu; rfl)
          case c3 => unfold maxLen; omega
          case c4 => omega
          case c5 => have := hbel.size; simp; omega
          intro v' w2 hown' hgrow' _
          have hown2 : w2.ownsRow w.heap.size 9 1 v' (ps ++ [(s.data.toList.drop fr).take (k - fr)]).length ((ps ++ [(s.data.toList.drop fr).take (k - fr)]).map strV) := by
            rw [strV_extract] at hown'; simpa using hown'
          have hbel2 : Below w.heap.size w w2 := (hbel.alloc hbel.size _).grown hgrow' (by have := hbel.size; simp; omega) (fun j hj => (hown.lt j hj).1)
          clear hown' hgrow' hown
          go_wp2
          go_roundw
          case rel => exact ⟨k + 1, k + 1, _, by omega, by omega, by simp; omega, by go_num, by go_num, HN, hown2, hbel2⟩
          case measure => simp [intOf]; omega
        · have hb := byte_ne s k hlt hdot
          have HN : Hid (CutAt s.data.toList (k + 1) fr ps) := cut_byte hkl HC.out hdot
          clear hend HC hlast hkl hdot
          go_wp2
          go_roundw
          case rel => exact ⟨k + 1, fr, ps, by omega, by omega, by omega, by go_num, rfl, HN, hown, hbel⟩
          case measure => simp [intOf]; omega
end Go.Proofs.YtpmpooekpeocdaaGreat

/- What the two functions NameOk answer (the specification's and the program's): the same function of the text's bytes, whatever the text. -/
namespace Go.Proofs.YtpmpooekpeocdaaGreat
open Go.ChangeShapes Go.WideShapes Go.ChangeAt Go.RowKit

def shortL (l : List UInt8) : Bool := decide (1 ≤ l.length) && decide (l.length ≤ 40) && headOk l && l.all goesC
theorem shortB_eq (s : ByteArray) : shortB s = shortL s.data.toList := by simp [shortB, shortL]
theorem shortB_mk (l : List UInt8) : shortB ⟨l.toArray⟩ = shortL l := by rw [shortB_eq]
def nameB (s : ByteArray) : Bool := decide (s.size ≤ 40) && (parts s.data.toList).all shortL

theorem row_slice {W : World} {base : Nat} {e : TypeId} {size : Nat} {v : Value} {n : Nat} {xs : List Value} (h : W.ownsRow base e size v n xs) (hn : 0 < n) : ∃ g cap, v = .slice (some ⟨g, 0, none⟩) n cap := by
  rcases h.2 with ⟨_, h0⟩ | ⟨g, cap, _, hv, _⟩
  · omega
  · exact ⟨g, cap, hv⟩
theorem parts_pos (l : List UInt8) : 0 < (parts l).length := by
  cases l with
  | nil => simp [parts]
  | cons c l =>
    unfold parts
    split
    · simp
    · split <;> simp
theorem parts_short (l : List UInt8) : ∀ p ∈ parts l, p.length ≤ l.length := by
  induction l with
  | nil => simp [parts]
  | cons c l ih =>
    intro p hp
    unfold parts at hp
    split at hp
    · rcases List.mem_cons.1 hp with rfl | h
      · simp
      · have := ih p h; simp; omega
    · split at hp
      · simp at hp; subst hp; simp
      · rename_i q qs he
        rcases List.mem_cons.1 hp with rfl | h
        · have := ih q (by rw [he]; simp); simp; omega
        · have := ih p (by rw [he]; simp [h]); simp; omega

set_option maxHeartbeats 1000000 in
theorem specName_any (s : ByteArray) (w : World) (hs : s.size ≤ maxLen) :
    Calls Tryz.prog 71 #[.string s] w fun e w' => e = .returned (.bool (nameB s)) ∧ Below w.heap.size w w' := by
  unfold maxLen at hs
  by_cases h2 : 40 < s.size
  · go_enter Tryz.func71, Tryz.ntmps71
    go_wp2_with fail
    go_ret
    exact ⟨ret_bool (by simp [nameB]; omega), Below.refl _ _⟩
  have HF : Hid (nameB s = (parts s.data.toList).all shortL) := by show nameB s = _; simp [nameB]; omega
  have hpp := parts_pos s.data.toList
  have hpl := parts_len s.data.toList
  have HS : Hid (∀ p ∈ parts s.data.toList, p.length ≤ s.data.toList.length) := parts_short s.data.toList
  have hz : s.data.toList.length = s.size := by simp
  rw [hz] at hpl
  go_enter Tryz.func71, Tryz.ntmps71
  go_wp2_with (go_at_call 103; refine (l1Cut_any _ _ (by omega)).mono ?_; rintro e w1 ⟨v, rfl, hown, hbel⟩)
  generalize hP : parts s.data.toList = P at *
  obtain ⟨g, cap, hv⟩ := row_slice hown hpp
  rw [hv] at hown ⊢
  have hcell : ∀ j (h : j < P.length), w1.cell? ⟨g, j, none⟩ = some (strV P[j]) := by
    intro j h
    rw [hown.cellAt j (by omega)]
    simp [h]
  clear hP hown hv
  go_wp2_with fail
  go_loop [4] (fun i => ∃ k : Nat, k ≤ P.length ∧ i = .int .i64 k ∧ Hid ((P.take k).all shortL = true)) (fun i => P.length - (intOf i).toNat)
  case atStart => exact ⟨0, Nat.zero_le _, rfl, rfl⟩
  case round =>
    obtain ⟨k, hk, rfl, HA⟩ := hrel
    by_cases hlt : k < P.length
    · have hc := hcell k hlt
      unfold strV at hc
      have hsz : (⟨P[k].toArray⟩ : ByteArray).size ≤ maxLen := by
        have := HS.out P[k] (by simp)
        show P[k].toArray.size ≤ maxLen
        unfold maxLen; simp; omega
      cases hg : shortL P[k]
      · have HG : Hid (shortB ⟨P[k].toArray⟩ = false) := by show _ = false; rw [shortB_mk, hg]
        have HN : Hid (P.all shortL = false) := by
          show _ = false
          rw [List.all_eq_false]; exact ⟨P[k], by simp, by simp [hg]⟩
        clear hcell hg
        go_wp2_with (go_at_call 104; refine (specShort_any _ _ hsz).mono ?_; rintro e w' ⟨rfl, rfl⟩; rw [HG.out])
        go_ret
        exact ⟨ret_bool (by rw [HF.out, HN.out]), hbel⟩
      · have HG : Hid (shortB ⟨P[k].toArray⟩ = true) := by show _ = true; rw [shortB_mk, hg]
        have HN : Hid ((P.take (k + 1)).all shortL = true) := by
          show _ = true
          rw [List.take_succ_eq_append_getElem hlt, List.all_append, HA.out]; simp [hg]
        clear hcell hg
        go_wp2_with (go_at_call 104; refine (specShort_any _ _ hsz).mono ?_; rintro e w' ⟨rfl, rfl⟩; rw [HG.out])
        go_round
        case rel => exact ⟨k + 1, by omega, by go_num, HN⟩
        case measure => simp [intOf]; omega
    · have HN : Hid (P.all shortL = true) := by
        have := HA.out
        rwa [List.take_of_length_le (by omega)] at this
      clear hcell
      go_wp2_with fail
      go_ret
      exact ⟨ret_bool (by rw [HF.out, HN.out]), hbel⟩

def strLen : Value → Nat | .string r => r.size | _ => 0

set_option maxHeartbeats 1000000 in
theorem implName_any (s : ByteArray) (w : World) (hs : s.size ≤ maxLen) :
    Calls Tryz.prog 110 #[.string s] w fun e w' => e = .returned (.bool (nameB s)) ∧ Below w.heap.size w w' := by
  unfold maxLen at hs
  by_cases h2 : 40 < s.size
  · go_enter Tryz.func110, Tryz.ntmps110
    go_wp2_with fail
    go_ret
    exact ⟨ret_bool (by simp [nameB]; omega), Below.refl _ _⟩
  have HF : Hid (nameB s = (parts s.data.toList).all shortL) := by show nameB s = _; simp [nameB]; omega
  have d2 : decide (40 < (s.size : Int)) = false := by simp; omega
  go_enter Tryz.func110, Tryz.ntmps110
  go_wp2_with fail
  go_loopw [0] (fun o wr => ∃ r : ByteArray, r.size ≤ 40 ∧ o = .string r ∧ Hid ((parts s.data.toList).all shortL = (parts r.data.toList).all shortL) ∧ ∃ n, wr = w.drewN n) (fun o _ => strLen o)
  case atStart => exact ⟨s, by omega, rfl, rfl, 0, rfl⟩
  case round =>
    obtain ⟨r, hr, rfl, HR, n, rfl⟩ := hrel
    have hr2 : r.size ≤ maxLen := by unfold maxLen; omega
    have hlen : r.data.toList.length = r.size := by simp
    by_cases hp : Lib.indexByte r.data.toList 46 < 0
    · have hm := index_miss _ hp
      have HP : Hid ((parts r.data.toList).all shortL = shortB r) := by show _ = _; rw [parts_none _ hm, shortB_eq]; simp
      clear hp
      cases hsr : shortB r
      all_goals
        go_wp2_with (first | (go_at_call 147; refine (cut_miss _ _ hm).mono ?_; rintro e w' ⟨rfl, n2, rfl⟩) | (go_at_call 148; refine (implShort_any _ _ hr2).mono ?_; rintro e w' ⟨rfl, rfl⟩))
        go_ret
        exact ⟨ret_bool (by rw [HF.out, HR.out, HP.out, hsr]), below_drewN (Below.refl _ _) _⟩
    · obtain ⟨i, hi⟩ : ∃ i : Nat, Lib.indexByte r.data.toList 46 = i := ⟨(Lib.indexByte r.data.toList 46).toNat, by omega⟩
      have HI : Hid (Lib.indexByte r.data.toList 46 = i) := hi
      obtain ⟨h1, h3, h4⟩ := index_hit _ i hi
      have e1 : (r.extract 0 i).data.toList = r.data.toList.take i := by rw [Lib.extract_data]; simp
      have e2 : (r.extract (i + 1) r.size).data.toList = r.data.toList.drop (i + 1) := by
        rw [Lib.extract_data, List.take_of_length_le (by simp)]
      have HP : Hid ((parts r.data.toList).all shortL = (shortB (r.extract 0 i) && (parts (r.extract (i + 1) r.size).data.toList).all shortL)) := by
        show _ = _
        rw [shortB_eq, e1, e2]
        conv => lhs; rw [h4]
        rw [parts_at _ _ h3]; rfl
      have z1 : (r.extract 0 i).size ≤ maxLen := by rw [← ByteArray.size_data, ← Array.length_toList, e1]; unfold maxLen; simp; omega
      have z2 : (r.extract (i + 1) r.size).size ≤ 40 ∧ (r.extract (i + 1) r.size).size < r.size := by
        rw [← ByteArray.size_data, ← Array.length_toList, e2]; simp; omega
      obtain ⟨z2, z3⟩ := z2
      clear hi hp e1 e2 h3 h4
      generalize hA : r.extract 0 i = A at *
      generalize hB : r.extract (i + 1) r.size = B at *
      have HA : Hid (r.extract 0 i = A) := hA
      have HB : Hid (r.extract (i + 1) r.size = B) := hB
      clear hA hB
      cases hsr : shortB A
      all_goals
        go_wp2_with (first | (go_at_call 147; refine (cut_hit _ i _ hr2 HI.out).mono ?_; rintro e w' ⟨rfl, n2, rfl⟩; rw [HA.out, HB.out]) | (go_at_call 148; refine (implShort_any _ _ z1).mono ?_; rintro e w' ⟨rfl, rfl⟩))
      · go_ret
        exact ⟨ret_bool (by rw [HF.out, HR.out, HP.out, hsr]; rfl), below_drewN (Below.refl _ _) _⟩
      · go_roundw
        case rel =>
          have HQ : Hid ((parts s.data.toList).all shortL = (parts B.data.toList).all shortL) := by show _ = _; rw [HR.out, HP.out, hsr]; rfl
          exact ⟨B, z2, rfl, HQ, _, rfl⟩
        case measure => simp [strLen]; omega
end Go.Proofs.YtpmpooekpeocdaaGreat
