/- What the specification's l1Cut answers at a text of at most 40 bytes and a dot: a new row that holds the text's parts between dots. -/
import Derived.Test.YtmdcdapjjodpiaaDoorLib
import Derived.WalkLawsBesides
import Derived.WalkSpells
namespace Go.Proofs.YtmdcdapjjodpiaaDoor
open Go.ChangeShapes Go.WideShapes Go.ChangeAt Go.RowKit

theorem Tryd.info9c : (Tryd.prog.info? 9).map (fun i => (i.zero, i.size, i.bytes)) = some (some (.string ⟨#[]⟩), 1, 16) := by kernel_rfl

def strV (l : List UInt8) : Value := .string ⟨l.toArray⟩
theorem strV_extract (s : ByteArray) (a b : Nat) : Value.string (s.extract a b) = strV ((s.data.toList.drop a).take (b - a)) := by
  unfold strV
  rw [← Lib.extract_data]

theorem byte_ne (s : ByteArray) (k : Nat) (h : k < s.size) (hn : s.data.toList[k]'(by simpa using h) ≠ 46) : ((s[k].toNat : Int) == 46) = false := by
  have e : s.data.toList[k]'(by simpa using h) = s[k] := by rw [Array.getElem_toList]; rfl
  rw [e] at hn
  rw [beq_eq_false_iff_ne]
  intro h2
  apply hn
  apply UInt8.toNat_inj.1
  show s[k].toNat = 46
  omega
theorem byte_eq (s : ByteArray) (k : Nat) (h : k < s.size) (hn : s.data.toList[k]'(by simpa using h) = 46) : ((s[k].toNat : Int) == 46) = true := by
  have e : s.data.toList[k]'(by simpa using h) = s[k] := by rw [Array.getElem_toList]; rfl
  rw [e] at hn
  rw [hn]; rfl

set_option maxHeartbeats 1000000 in
set_option maxRecDepth 20000 in
theorem l1Cut_any (s : ByteArray) (w : World) (hs : s.size ≤ 40) :
    Calls Tryd.prog 40 #[.string s, .int .u8 46] w fun e w' => ∃ v, e = .returned v ∧ w'.ownsRow w.heap.size 9 1 v (parts s.data.toList).length ((parts s.data.toList).map strV) ∧ Below w.heap.size w w' := by
  obtain ⟨i0, hi, hz0, hz1, hz2⟩ := info_parts Tryd.info9c
  go_enter Tryd.func40, Tryd.ntmps40
  go_wp2
  go_loopw [5, 6, 7] (fun o f i wr => ∃ (k fr : Nat) (ps : List (List UInt8)), k ≤ s.size + 1 ∧ fr ≤ s.size + 1 ∧ ps.length ≤ k ∧ i = .int .i64 k ∧ f = .int .i64 fr ∧ Hid (CutAt s.data.toList k fr ps) ∧ wr.ownsRow w.heap.size 9 1 o ps.length (ps.map strV) ∧ Below w.heap.size w wr) (fun _ _ i _ => s.size + 1 - (intOf i).toNat)
  case atStart => exact ⟨0, 0, [], by omega, by omega, by simp, rfl, rfl, cut_start _, World.ownsRow_made _ _ _ (Nat.le_refl _) (by unfold maxLen; omega) rfl, (Below.refl _ _).alloc (Nat.le_refl _) _⟩
  case round =>
    obtain ⟨k, fr, ps, hk, hfr, hpl, rfl, rfl, HC, hown, hbel⟩ := hrel
    by_cases hlast : k = s.size + 1
    · have hge : (s.size : Int) < k := by omega
      have HE : Hid (parts s.data.toList = ps) := by
        have := HC.out
        rw [hlast, show s.size + 1 = s.data.toList.length + 1 from by simp] at this
        exact cut_end this
      clear hlast HC
      go_wp2
      go_ret
      exact ⟨_, rfl, by rw [HE.out]; exact hown, hbel⟩
    · have hle : (k : Int) ≤ s.size := by omega
      by_cases hend : k = s.size
      · have hq : ((k : Int) == (s.size : Int)) = true := beq_iff_eq.2 (by omega)
        have hlen : s.data.toList.length = s.size := by simp
        obtain ⟨hfk, hnext⟩ : fr ≤ k ∧ CutAt s.data.toList (k + 1) (k + 1) (ps ++ [(s.data.toList.drop fr).take (k - fr)]) := by
          have := HC.out
          rw [hend, ← hlen] at this ⊢
          exact cut_last this
        have HN : Hid (CutAt s.data.toList (k + 1) (k + 1) (ps ++ [(s.data.toList.drop fr).take (k - fr)])) := hnext
        clear hnext hend HC hlast hlen
        go_wp2_with (at_builtin; refine wpList_append_own _ rfl _ _ 36 rfl w.heap.size 9 i0 (.string ⟨#[]⟩) 1 16 Tryd.underlying36 hi hz0 hz1 hz2 rfl (by decide) _ _ _ rfl (hown.alloc _) ⟨wr.heap.size, 0, none⟩ 1 1 [.string (s.extract fr k)] rfl rfl ?c1 ?c2 ?c3 ?c4 ?c5 ?_)
        case c1 => exact cell_one_new _ _ _
        case c2 => first | rfl | (intro u hu; simp at hu; subst hu; rfl)
        case c3 => unfold maxLen; omega
        case c4 => omega
        case c5 => have := hbel.size; simp; omega
        intro v' w2 hown' hgrow' _
        have hown2 : w2.ownsRow w.heap.size 9 1 v' (ps ++ [(s.data.toList.drop fr).take (k - fr)]).length ((ps ++ [(s.data.toList.drop fr).take (k - fr)]).map strV) := by
          rw [strV_extract] at hown'; simpa using hown'
        have hbel2 : Below w.heap.size w w2 := (hbel.alloc hbel.size _).grown hgrow' (by have := hbel.size; simp; omega) (fun j hj => (hown.lt j hj).1)
        clear hown' hgrow' hown
        go_wp2
        go_roundw
        case rel => exact ⟨k + 1, k + 1, _, by omega, by omega, by simp; omega, by go_num, by go_num, HN, hown2, hbel2⟩
        case measure => simp [intOf]; omega
      · have hq : ((k : Int) == (s.size : Int)) = false := beq_eq_false_iff_ne.2 (by omega)
        have hlt : k < s.size := by omega
        have hkl : k < s.data.toList.length := by simpa using hlt
        by_cases hdot : s.data.toList[k]'hkl = 46
        · have hb := byte_eq s k hlt hdot
          obtain ⟨hfk, hnext⟩ := cut_dot hkl HC.out hdot
          have HN : Hid (CutAt s.data.toList (k + 1) (k + 1) (ps ++ [(s.data.toList.drop fr).take (k - fr)])) := hnext
          clear hnext hend HC hlast hkl hdot
          go_wp2_with (at_builtin; refine wpList_append_own _ rfl _ _ 36 rfl w.heap.size 9 i0 (.string ⟨#[]⟩) 1 16 Tryd.underlying36 hi hz0 hz1 hz2 rfl (by decide) _ _ _ rfl (hown.alloc _) ⟨wr.heap.size, 0, none⟩ 1 1 [.string (s.extract fr k)] rfl rfl ?c1 ?c2 ?c3 ?c4 ?c5 ?_)
          case c1 => exact cell_one_new _ _ _
          case c2 => first | rfl | (intro u hu; simp at hu; subst hu; rfl)
          case c3 => unfold maxLen; omega
          case c4 => omega
          case c5 => have := hbel.size; simp; omega
          intro v' w2 hown' hgrow' _
          have hown2 : w2.ownsRow w.heap.size 9 1 v' (ps ++ [(s.data.toList.drop fr).take (k - fr)]).length ((ps ++ [(s.data.toList.drop fr).take (k - fr)]).map strV) := by
            rw [strV_extract] at hown'; simpa using hown'
          have hbel2 : Below w.heap.size w w2 := (hbel.alloc hbel.size _).grown hgrow' (by have := hbel.size; simp; omega) (fun j hj => (hown.lt j hj).1)
          clear hown' hgrow' hown
          go_wp2
          go_roundw
          case rel => exact ⟨k + 1, k + 1, _, by omega, by omega, by simp; omega, by go_num, by go_num, HN, hown2, hbel2⟩
          case measure => simp [intOf]; omega
        · have hb := byte_ne s k hlt hdot
          have HN : Hid (CutAt s.data.toList (k + 1) fr ps) := cut_byte hkl HC.out hdot
          clear hend HC hlast hkl hdot
          go_wp2
          go_roundw
          case rel => exact ⟨k + 1, fr, ps, by omega, by omega, by omega, by go_num, rfl, HN, hown, hbel⟩
          case measure => simp [intOf]; omega
end Go.Proofs.YtmdcdapjjodpiaaDoor
