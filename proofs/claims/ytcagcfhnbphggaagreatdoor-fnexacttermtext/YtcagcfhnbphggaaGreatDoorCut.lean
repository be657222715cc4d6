/- What strings.Cut answers at the separator of one dot, whatever the text: the text up to the first dot, the text behind it and true; or the text, the empty text and false. -/
import Derived.Test.YtcagcfhnbphggaaGreatDoorParts
import Derived.Test.YtcagcfhnbphggaaGreatDoorRows
import Derived.WalkKit
import Derived.ProofKit
import Derived.Lib.Walk
import Derived.Lib.Strings
import Derived.Lib.Slices
import Derived.Lib.Bytealg
import Derived.BigCall
import Derived.BigGuard
import Derived.Deep.Draws
import Derived.Laws.Strings3
import Derived.WalkLawsBesides
import Derived.WalkSpells
namespace Go.Proofs.YtcagcfhnbphggaaGreatDoor
open Go.ChangeShapes Go.WideShapes Go.ChangeAt Go.RowKit

set_option maxHeartbeats 1000000 in
set_option maxRecDepth 100000 in
theorem indexByte_any (s : ByteArray) (c : Int) (w : World) :
    Calls Tryz.prog 112 #[.string s, .int .u8 c] w fun e w' => e = .returned (.int .i64 (Lib.indexByte s.data.toList c.toNat.toUInt8)) ∧ w' = w := by
  go_enter Tryz.func112, Tryz.ntmps112
  go_wp2
  rw [run_callFunc_extern Tryz.func118 (by kernel_rfl) (by kernel_rfl) (by kernel_rfl) (e := Extern.BytealgIndexByte.indexByte) (by kernel_rfl), Lib.run_indexByteString]
  simp only [Result.andThen]
  rw [Oper.upon_value]
  go_wp2
  go_ret
  exact ⟨rfl, rfl⟩

set_option maxHeartbeats 2000000 in
set_option maxRecDepth 100000 in
theorem index_one (s : ByteArray) (c : UInt8) (w : World) :
    Calls Tryz.prog 105 #[.string s, .string ⟨#[c]⟩] w fun e w' => e = .returned (.int .i64 (Lib.indexByte s.data.toList c)) ∧ w' = w := by
  go_enter Tryz.func105, Tryz.ntmps105
  go_wp2_with (go_at_call 112; refine (indexByte_any _ _ _).mono ?_; rintro e w' ⟨rfl, rfl⟩)
  · have h : ([c] == s.toList) = true := by assumption
    go_ret
    refine ⟨?_, rfl⟩
    have e : s.data.toList = [c] := by rw [← Lib.toList_data]; exact (beq_iff_eq.1 h).symm
    rw [e]
    simp [Lib.indexByte]
  · go_ret
    exact ⟨rfl, rfl⟩

set_option maxHeartbeats 2000000 in
set_option maxRecDepth 100000 in
theorem cutLite_miss (s : ByteArray) (w : World) (h : 46 ∉ s.data.toList) :
    Calls Tryz.prog 95 #[.string s, .string ⟨#[46]⟩] w fun e w' => e = .returned (.tuple #[.string s, .string ⟨#[]⟩, .bool false]) ∧ ∃ n, w' = w.drewN n := by
  have hi : Lib.indexByte s.data.toList 46 = -1 := by
    have hg := Lib.indexByte_ge s.data.toList 46
    by_cases hp : 0 ≤ Lib.indexByte s.data.toList 46
    · obtain ⟨_, _, e⟩ := index_hit s.data.toList (Lib.indexByte s.data.toList 46).toNat (by omega)
      exact absurd (by rw [e]; simp) h
    · omega
  clear h
  go_enter Tryz.func95, Tryz.ntmps95
  go_wp2_with (go_at_call 105; refine (index_one _ _ _).mono ?_; rintro e w' ⟨rfl, rfl⟩; rw [hi])
  go_ret3
  exact ⟨rfl, 0, rfl⟩

set_option maxHeartbeats 2000000 in
set_option maxRecDepth 100000 in
theorem cutLite_hit (s : ByteArray) (i : Nat) (w : World) (hs : s.size ≤ maxLen) (hi : Lib.indexByte s.data.toList 46 = i) :
    Calls Tryz.prog 95 #[.string s, .string ⟨#[46]⟩] w fun e w' => e = .returned (.tuple #[.string (s.extract 0 i), .string (s.extract (i + 1) s.size), .bool true]) ∧ ∃ n, w' = w.drewN n := by
  unfold maxLen at hs
  have hroom : i < s.size := by have := (index_hit _ i hi).1; simpa using this
  have c1 : (0 : Int) ≤ ↑i := by omega
  have c2 : (↑i : Int) ≤ ↑s.size := by omega
  have c3 : (0 : Int) ≤ ↑i + 1 := by omega
  have c4 : (↑i + 1 : Int) ≤ ↑s.size := by omega
  have HI : Hid (Lib.indexByte s.data.toList 46 = i) := hi
  clear hi
  go_enter Tryz.func95, Tryz.ntmps95
  go_wp2_with (go_at_call 105; refine (index_one _ _ _).mono ?_; rintro e w' ⟨rfl, rfl⟩; rw [HI.out])
  go_region
  go_wp2
  go_ret3
  exact ⟨rfl, 1, rfl⟩

set_option maxHeartbeats 1000000 in
theorem cut_miss (s : ByteArray) (w : World) (h : 46 ∉ s.data.toList) :
    Calls Tryz.prog 83 #[.string s, .string ⟨#[46]⟩] w fun e w' => e = .returned (.tuple #[.string s, .string ⟨#[]⟩, .bool false]) ∧ ∃ n, w' = w.drewN n := by
  go_enter Tryz.func83, Tryz.ntmps83
  go_wp2_with (go_at_call 95; refine (cutLite_miss _ _ h).mono ?_; rintro e w' ⟨rfl, n, rfl⟩)
  go_ret3
  exact ⟨rfl, n, rfl⟩

set_option maxHeartbeats 1000000 in
theorem cut_hit (s : ByteArray) (i : Nat) (w : World) (hs : s.size ≤ maxLen) (hi : Lib.indexByte s.data.toList 46 = i) :
    Calls Tryz.prog 83 #[.string s, .string ⟨#[46]⟩] w fun e w' => e = .returned (.tuple #[.string (s.extract 0 i), .string (s.extract (i + 1) s.size), .bool true]) ∧ ∃ n, w' = w.drewN n := by
  have HI : Hid (Lib.indexByte s.data.toList 46 = i) := hi
  clear hi
  go_enter Tryz.func83, Tryz.ntmps83
  go_wp2_with (go_at_call 95; refine (cutLite_hit _ i _ hs HI.out).mono ?_; rintro e w' ⟨rfl, n, rfl⟩)
  go_ret3
  exact ⟨rfl, n, rfl⟩
end Go.Proofs.YtcagcfhnbphggaaGreatDoor

/- What the specification's l1Cut answers at a text of at most 40 bytes and a dot: a new row that holds the text's parts between dots. -/
namespace Go.Proofs.YtcagcfhnbphggaaGreatDoor
open Go.ChangeShapes Go.WideShapes Go.ChangeAt Go.RowKit

theorem Tryz.info9c : (Tryz.prog.info? 9).map (fun i => (i.zero, i.size, i.bytes)) = some (some (.string ⟨#[]⟩), 1, 16) := by kernel_rfl

def strV (l : List UInt8) : Value := .string ⟨l.toArray⟩
theorem strV_extract (s : ByteArray) (a b : Nat) : Value.string (s.extract a b) = strV ((s.data.toList.drop a).take (b - a)) := by
  unfold strV
  rw [← Lib.extract_data]

theorem byte_ne (s : ByteArray) (k : Nat) (h : k < s.size) (hn : s.data.toList[k]'(by simpa using h) ≠ 46) : ((s[k].toNat : Int) == 46) = false := by
  have e : s.data.toList[k]'(by simpa using h) = s[k] := by rw [Array.getElem_toList]; rfl
  rw [e] at hn
  rw [beq_eq_false_iff_ne]
  intro h2
  apply hn
  apply UInt8.toNat_inj.1
  show s[k].toNat = 46
  omega
theorem byte_eq (s : ByteArray) (k : Nat) (h : k < s.size) (hn : s.data.toList[k]'(by simpa using h) = 46) : ((s[k].toNat : Int) == 46) = true := by
  have e : s.data.toList[k]'(by simpa using h) = s[k] := by rw [Array.getElem_toList]; rfl
  rw [e] at hn
  rw [hn]; rfl

set_option maxHeartbeats 1000000 in
set_option maxRecDepth 20000 in
theorem l1Cut_any (s : ByteArray) (w : World) (hs : s.size ≤ 40) :
    Calls Tryz.prog 66 #[.string s, .int .u8 46] w fun e w' => ∃ v, e = .returned v ∧ w'.ownsRow w.heap.size 9 1 v (parts s.data.toList).length ((parts s.data.toList).map strV) ∧ Below w.heap.size w w' := by
  obtain ⟨i0, hi, hz0, hz1, hz2⟩ := info_parts Tryz.info9c
  go_enter Tryz.func66, Tryz.ntmps66
  go_wp2
  go_loopw [5, 6, 7] (fun o f i wr => ∃ (k fr : Nat) (ps : List (List UInt8)), k ≤ s.size + 1 ∧ fr ≤ s.size + 1 ∧ ps.length ≤ k ∧ i = .int .i64 k ∧ f = .int .i64 fr ∧ Hid (CutAt s.data.toList k fr ps) ∧ wr.ownsRow w.heap.size 9 1 o ps.length (ps.map strV) ∧ Below w.heap.size w wr) (fun _ _ i _ => s.size + 1 - (intOf i).toNat)
  case atStart => exact ⟨0, 0, [], by omega, by omega, by simp, rfl, rfl, cut_start _, World.ownsRow_made _ _ _ (Nat.le_refl _) (by unfold maxLen; omega) rfl, (Below.refl _ _).alloc (Nat.le_refl _) _⟩
  case round =>
    obtain ⟨k, fr, ps, hk, hfr, hpl, rfl, rfl, HC, hown, hbel⟩ := hrel
    by_cases hlast : k = s.size + 1
    · have hge : (s.size : Int) < k := by omega
      have HE : Hid (parts s.data.toList = ps) := by
        have := HC.out
        rw [hlast, show s.size + 1 = s.data.toList.length + 1 from by simp] at this
        exact cut_end this
      clear hlast HC
      go_wp2
      go_ret
      exact ⟨_, rfl, by rw [HE.out]; exact hown, hbel⟩
    · have hle : (k : Int) ≤ s.size := by omega
      by_cases hend : k = s.size
      · have hq : ((k : Int) == (s.size : Int)) = true := beq_iff_eq.2 (by omega)
        have hlen : s.data.toList.length = s.size := by simp
        obtain ⟨hfk, hnext⟩ : fr ≤ k ∧ CutAt s.data.toList (k + 1) (k + 1) (ps ++ [(s.data.toList.drop fr).take (k - fr)]) := by
          have := HC.out
          rw [hend, ← hlen] at this ⊢
          exact cut_last this
        have HN : Hid (CutAt s.data.toList (k + 1) (k + 1) (ps ++ [(s.data.toList.drop fr).take (k - fr)])) := hnext
        clear hnext hend HC hlast hlen
        go_wp2_with (at_builtin; refine wpList_append_own _ rfl _ _ 70 rfl w.heap.size 9 i0 (.string ⟨#[]⟩) 1 16 Tryz.underlying70 hi hz0 hz1 hz2 rfl (by decide) _ _ _ rfl (hown.alloc _) ⟨wr.heap.size, 0, none⟩ 1 1 [.string (s.extract fr k)] rfl rfl ?c1 ?c2 ?c3 ?c4 ?c5 ?_)
        case c1 => exact cell_one_new _ _ _
        case c2 => first | rfl | (intro u hu; simp at hu; subst hu; rfl)
        case c3 => unfold maxLen; omega
        case c4 => omega
        case c5 => have := hbel.size; simp; omega
        intro v' w2 hown' hgrow' _
        have hown2 : w2.ownsRow w.heap.size 9 1 v' (ps ++ [(s.data.toList.drop fr).take (k - fr)]).length ((ps ++ [(s.data.toList.drop fr).take (k - fr)]).map strV) := by
          rw [strV_extract] at hown'; simpa using hown'
        have hbel2 : Below w.heap.size w w2 := (hbel.alloc hbel.size _).grown hgrow' (by have := hbel.size; simp; omega) (fun j hj => (hown.lt j hj).1)
        clear hown' hgrow' hown
        go_wp2
        go_roundw
        case rel => exact ⟨k + 1, k + 1, _, by omega, by omega, by simp; omega, by go_num, by go_num, HN, hown2, hbel2⟩
        case measure => simp [intOf]; omega
      · have hq : ((k : Int) == (s.size : Int)) = false := beq_eq_false_iff_ne.2 (by omega)
        have hlt : k < s.size := by omega
        have hkl : k < s.data.toList.length := by simpa using hlt
        by_cases hdot : s.data.toList[k]'hkl = 46
        · have hb := byte_eq s k hlt hdot
          obtain ⟨hfk, hnext⟩ := cut_dot hkl HC.out hdot
          have HN : Hid (CutAt s.data.toList (k + 1) (k + 1) (ps ++ [(s.data.toList.drop fr).take (k - fr)])) := hnext
          clear hnext hend HC hlast hkl hdot
          go_wp2_with (at_builtin; refine wpList_append_own _ rfl _ _ 70 rfl w.heap.size 9 i0 (.string ⟨#[]⟩) 1 16 Tryz.underlying70 hi hz0 hz1 hz2 rfl (by decide) _ _ _ rfl (hown.alloc _) ⟨wr.heap.size, 0, none⟩ 1 1 [.string (s.extract fr k)] rfl rfl ?c1 ?c2 ?c3 ?c4 ?c5 ?_)
          case c1 => exact cell_one_new _ _ _
          case c2 => first | rfl | (intro u hu; simp at hu; subst hu; rfl)
          case c3 => unfold maxLen; omega
          case c4 => omega
          case c5 => have := hbel.size; simp; omega
          intro v' w2 hown' hgrow' _
          have hown2 : w2.ownsRow w.heap.size 9 1 v' (ps ++ [(s.data.toList.drop fr).take (k - fr)]).length ((ps ++ [(s.data.toList.drop fr).take (k - fr)]).map strV) := by
            rw [strV_extract] at hown'; simpa using hown'
          have hbel2 : Below w.heap.size w w2 := (hbel.alloc hbel.size _).grown hgrow' (by have := hbel.size; simp; omega) (fun j hj => (hown.lt j hj).1)
          clear hown' hgrow' hown
          go_wp2
          go_roundw
          case rel => exact ⟨k + 1, k + 1, _, by omega, by omega, by simp; omega, by go_num, by go_num, HN, hown2, hbel2⟩
          case measure => simp [intOf]; omega
        · have hb := byte_ne s k hlt hdot
          have HN : Hid (CutAt s.data.toList (k + 1) fr ps) := cut_byte hkl HC.out hdot
          clear hend HC hlast hkl hdot
          go_wp2
          go_roundw
          case rel => exact ⟨k + 1, fr, ps, by omega, by omega, by omega, by go_num, rfl, HN, hown, hbel⟩
          case measure => simp [intOf]; omega
end Go.Proofs.YtcagcfhnbphggaaGreatDoor
