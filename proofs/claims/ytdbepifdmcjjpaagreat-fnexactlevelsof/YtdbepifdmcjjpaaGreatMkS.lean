/- What markStringS and heldStringS answer at a row of texts of the call's own. -/
import Derived.Test.YtdbepifdmcjjpaaGreatMkF
namespace Go.Proofs.YtdbepifdmcjjpaaGreat
open Go.ChangeShapes Go.WideShapes Go.ChangeAt Go.RowKit

/-- The texts of numbers from k on. -/
def mts (k n : Nat) : List ByteArray := (List.range n).map (fun j => mt (k + j))
theorem mts_len (k n : Nat) : (mts k n).length = n := by simp [mts]
theorem mts_get (k n j : Nat) (h : j < n) : (mts k n)[j]'(by rw [mts_len]; exact h) = mt (k + j) := by simp [mts]

set_option maxRecDepth 20000 in
set_option maxHeartbeats 2000000 in
theorem markStr_any (lo hi : Nat) (v : Value) (ss : List ByteArray) (k : Nat) (w : World) (h : w.ownsRow lo 9 1 v ss.length (ss.map Value.string)) (hv : ∀ b, v.ownBlock = some b → b < hi) (hlo : lo ≤ w.heap.size) (hn : ss.length ≤ 1048576) (hk1 : 1 ≤ k) (hk : k ≤ 50000000) :
    Calls Tryz.prog 18 #[v, .int .i64 k] w fun e w' => e = .returned (.int .i64 ((k + ss.length : Nat) : Int)) ∧ w'.ownsRow lo 9 1 v (mts k ss.length).length ((mts k ss.length).map Value.string) ∧ Chg lo hi w w' := by
  by_cases h0 : ss.length = 0
  · have hks : ss = [] := List.eq_nil_of_length_eq_zero h0
    subst hks
    have HH := hide (show w.ownsRow lo 9 1 v (mts k ([] : List ByteArray).length).length ((mts k ([] : List ByteArray).length).map Value.string) from h)
    obtain ⟨a, cap, rfl⟩ := row_form h
    clear h hv
    go_enter Tryz.func18, Tryz.ntmps18
    go_wp2_with fail
    go_loopw [1, 5] (fun m i wr => m = .int .i64 k ∧ i = .int .i64 0 ∧ w = wr) (fun _ _ _ => 0)
    case atStart => exact ⟨rfl, rfl, rfl⟩
    case round =>
      obtain ⟨rfl, rfl, rfl⟩ := hrel
      go_wp2_with fail
      go_ret
      exact ⟨by simp, HH.out, Chg.refl _ _ _⟩
  · obtain ⟨g, cap, hvv⟩ : ∃ g cap, v = .slice (some ⟨g, 0, none⟩) ss.length cap := by
      rcases h.2 with ⟨_, h1⟩ | ⟨g, cap, _, h1, _⟩
      · omega
      · exact ⟨g, cap, h1⟩
    subst hvv
    have hgl := (h.lt g rfl).1
    have hgh := hv g rfl
    have HO := hide h
    clear h hv
    go_enter Tryz.func18, Tryz.ntmps18
    go_wp2_with fail
    go_loopw [1, 5] (fun m i wr => ∃ (j : Nat) (xs : List Value), j ≤ ss.length ∧ i = .int .i64 j ∧ m = .int .i64 ((k + j : Nat) : Int) ∧ wr.ownsRow lo 9 1 (.slice (some ⟨g, 0, none⟩) ss.length cap) ss.length xs ∧ Hid (∀ q, q < j → xs[q]? = some (.string (mt (k + q)))) ∧ Hid (Chg lo hi w wr)) (fun _ i _ => ss.length - (intOf i).toNat)
    case atStart => exact ⟨0, _, by omega, rfl, rfl, HO.out, fun q h => by omega, Chg.refl _ _ _⟩
    case round =>
      obtain ⟨j, xs, hj, rfl, rfl, hownr, HX, HC⟩ := hrel
      clear HO
      by_cases hlt : j < ss.length
      · have hlt' : (j : Int) < ss.length := by omega
        have hxl0 := hownr.1
        have HX2 : Hid (∀ q, q < j + 1 → (xs.set j (.string (mt (k + j))))[q]? = some (.string (mt (k + q)))) := by
          show ∀ q, _
          intro q hq
          by_cases e : j = q
          · subst e; rw [List.getElem?_set_self (by omega)]
          · rw [List.getElem?_set_ne e]; exact HX.out q (by omega)
        obtain ⟨K, hK⟩ : ∃ K, K = k + j := ⟨_, rfl⟩
        have HKE := hide hK
        rw [← hK] at HX2 ⊢
        have hK1 : 1 ≤ K := by omega
        have hK2 : K ≤ 60000000 := by omega
        have HMT := hide (markText_any K wr hK1 (by omega))
        have HOW := hide hownr
        clear hK hownr HX
        go_wp2_with fail
        refine HMT.out.mono ?_
        rintro e w2 ⟨rfl, hb2⟩
        have hs2 := hb2.size
        have ho2 := row_keep hb2 HOW.out
        have hst := (ho2.stored j (.string (mt K))).1
        have HST := hide hst
        have hfz := ho2.frozenAt j
        have hce := ho2.cellAt j (by omega)
        rw [List.getElem?_eq_getElem (by omega)] at hce
        have HC2 := hide ((HC.out.trans (Chg.of (hi := hi) hb2 (by have := HC.out.1.size; omega))).trans (Chg.set w2 (p := ⟨g, j, none⟩) hgl hgh (.string (mt K))))
        clear hst ho2 hb2 HMT
        go_wp2_with fail
        go_roundw
        case rel => exact ⟨j + 1, _, by omega, by go_num, by have := HKE.out; rw [show k + (j + 1) = K + 1 by omega]; go_num, HST.out, HX2, HC2⟩
        case measure => simp [intOf]; omega
      · have hjn : j = ss.length := by omega
        subst hjn
        have hxs : xs = (mts k ss.length).map Value.string := by
          refine List.ext_getElem? fun q => ?_
          by_cases hq : q < ss.length
          · rw [HX.out q hq, List.getElem?_map, List.getElem?_eq_getElem (by rw [mts_len]; exact hq), mts_get k _ q hq]; rfl
          · have h1 := hownr.1
            rw [List.getElem?_eq_none (by omega), List.getElem?_eq_none (by rw [List.length_map, mts_len]; omega)]
        have HK : Hid (wr.ownsRow lo 9 1 (.slice (some ⟨g, 0, none⟩) ss.length cap) (mts k ss.length).length ((mts k ss.length).map Value.string)) := by
          show World.ownsRow _ _ _ _ _ _ _
          rw [mts_len, ← hxs]
          exact hownr
        clear hownr hxs HX
        go_wp2_with fail
        go_ret
        exact ⟨rfl, HK.out, HC.out⟩

set_option maxRecDepth 20000 in
set_option maxHeartbeats 2000000 in
theorem heldStr_any (v : Value) (n k : Nat) (w : World) (h : StrsAt w v (mts k n)) (hl : n ≤ 1048576) (hk1 : 1 ≤ k) (hk : k ≤ 50000000) :
    Calls Tryz.prog 19 #[v, .int .i64 k] w fun e w' => e = .returned (.int .i64 ((k + n : Nat) : Int)) ∧ Below w.heap.size w w' := by
  obtain ⟨a, cap, rfl, h1, h2, hc⟩ := h
  rw [mts_len] at h1 ⊢
  have HC := hide hc
  unfold maxLen at h2
  clear hc
  go_enter Tryz.func19, Tryz.ntmps19
  go_wp2_with fail
  go_loopw [1, 5] (fun m i wr => ∃ (j : Nat), j ≤ n ∧ i = .int .i64 j ∧ m = .int .i64 ((k + j : Nat) : Int) ∧ Hid (Below w.heap.size w wr)) (fun _ i _ => n - (intOf i).toNat)
  case atStart => exact ⟨0, by omega, rfl, rfl, Below.refl _ _⟩
  case round =>
    obtain ⟨j, hj, rfl, rfl, HB⟩ := hrel
    by_cases hlt : j < n
    · obtain ⟨b, off, rfl, hcell⟩ := HC.out (by rw [mts_len]; omega)
      have hc := hcell j (by rw [mts_len]; exact hlt)
      rw [mts_get k n j hlt] at hc
      have hc := keep_cell HB.out hc
      have hlt' : (j : Int) < n := by omega
      obtain ⟨K, hK⟩ : ∃ K, K = k + j := ⟨_, rfl⟩
      have HKE := hide hK
      rw [← hK] at hc ⊢
      have hK1 : 1 ≤ K := by omega
      have hK2 : K ≤ 60000000 := by omega
      have HMT := hide (fun W => markText_any K W hK1 (by omega))
      have hself2 : ((mt K).toList != (mt K).toList) = false := by simp
      clear hcell hK
      generalize mt K = ms at *
      go_wp2_with fail
      go_region_held3 (fun w' => w'.cell? ⟨b, off + j, none⟩ = some (.string ms))
        (first
          | go_keep
          | exact keep_cell hb1 (by assumption)
          | fail)
        (first
          | (go_at_call 36; refine (HMT.out _).mono ?_; rintro e w1 ⟨rfl, hb1⟩)
          | fail)
      all_goals
        have hbb := (show Below wr.heap.size wr wr.drew from ⟨rfl, rfl, rfl, Nat.le_refl _, fun _ _ => rfl⟩).trans (hb1.mono (Nat.le_refl _))
        have HB1 := hide (bel_trans HB.out hbb)
        clear hb1 hbb
        go_wp2_with fail
        go_roundw
        case rel => exact ⟨j + 1, by omega, by go_num, by have := HKE.out; rw [show k + (j + 1) = K + 1 by omega]; go_num, HB1⟩
        case measure => simp [intOf]; omega
    · have hjn : j = n := by omega
      subst hjn
      go_wp2_with fail
      go_ret
      exact ⟨rfl, HB.out⟩
end Go.Proofs.YtdbepifdmcjjpaaGreat
