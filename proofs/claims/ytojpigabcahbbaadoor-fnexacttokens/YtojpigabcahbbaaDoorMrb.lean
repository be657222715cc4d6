/- What toByteS, eqByteS and markByteS answer. -/
import Derived.Test.YtojpigabcahbbaaDoorSpk
import Derived.OwnWalk
namespace Go.Proofs.YtojpigabcahbbaaDoor
open Go.ChangeShapes Go.WideShapes Go.ChangeAt Go.RowKit

def bC (bs : List UInt8) : List Value := bs.map fun c => .int .u8 (c.toNat : Int)
theorem size_set (w : World) (p : Addr) (u : Value) : (w.setCell p u).heap.size = w.heap.size := by simp [World.setCell]
theorem grown_set (w : World) (p : Addr) (u : Value) : w.grownBy (w.setCell p u) (some p.block) :=
  ⟨rfl, rfl, rfl, by rw [size_set]; exact Nat.le_refl _, fun k _ hne => Below.heap_setCell w p u k (fun e => hne (by rw [e]))⟩
/-- An owned row of bytes, its cells. -/
theorem own_cells {base : Nat} {w : World} {v : Value} {n : Nat} {xs : List Value} (h : w.ownsRow base 5 1 v n xs) :
    ∃ a cap, v = .slice a n cap ∧ n ≤ cap ∧ cap ≤ maxLen ∧ (0 < n → ∃ g, a = some ⟨g, 0, none⟩ ∧ ∀ j, j < n → w.cell? ⟨g, j, none⟩ = xs[j]?) := by
  have h0 := h
  obtain ⟨h1, h2⟩ := h
  rcases h2 with ⟨rfl, rfl⟩ | ⟨g, cap, cur, rfl, h4, h5, h6, h7, _⟩
  · exact ⟨none, 0, rfl, Nat.le_refl _, by unfold maxLen; omega, fun h => by omega⟩
  · exact ⟨_, cap, rfl, h6, h7, fun _ => ⟨g, rfl, fun j hj => World.ownsRow.cellAt h0 j (by omega)⟩⟩
theorem bC_get (bs : List UInt8) (j : Nat) (h : j < bs.length) : (bC bs)[j]? = some (.int .u8 (bs[j].toNat : Int)) := by
  unfold bC
  rw [List.getElem?_map, List.getElem?_eq_getElem h]
  rfl
set_option maxHeartbeats 1000000 in
theorem eqByteS_any (b1 b2 : Nat) (v1 v2 : Value) (bs : List UInt8) (w : World) (h1 : w.ownsRow b1 5 1 v1 bs.length (bC bs)) (h2 : w.ownsRow b2 5 1 v2 bs.length (bC bs)) :
    Calls Tryd.prog 8 #[v1, v2] w fun e w' => e = .returned (.bool true) ∧ ∃ n, w' = w.drewN n := by
  obtain ⟨a1, cap1, rfl, hl1, hm1, hc1⟩ := own_cells h1
  obtain ⟨a2, cap2, rfl, hl2, hm2, hc2⟩ := own_cells h2
  unfold maxLen at hm1 hm2
  have H1 := hide hc1
  have H2 := hide hc2
  clear hc1 hc2 h1 h2
  go_enter Tryd.func8, Tryd.ntmps8
  go_wp2_with fail
  go_loopw [5] (fun i wr => ∃ (k : Nat) (n : Nat), k ≤ bs.length ∧ i = .int .i64 k ∧ wr = w.drewN n) (fun i _ => bs.length - (intOf i).toNat)
  case atStart => exact ⟨0, 0, by omega, rfl, rfl⟩
  case round =>
    obtain ⟨k, n, hk, rfl, rfl⟩ := hrel
    by_cases hlt : k < bs.length
    · obtain ⟨g1, rfl, c1⟩ := H1.out (by omega)
      obtain ⟨g2, rfl, c2⟩ := H2.out (by omega)
      have d1 := (c1 k hlt).trans (bC_get bs k hlt)
      have d2 := (c2 k hlt).trans (bC_get bs k hlt)
      have hlt' : (k : Int) < bs.length := by omega
      clear c1 c2 H1 H2
      generalize (bs[k].toNat : Int) = q at *
      go_wp2_with fail
      go_region
      go_wp2_with fail
      go_roundw
      case rel => exact ⟨k + 1, _, by omega, by go_num, rfl⟩
      case measure => simp [intOf]; omega
    · go_wp2_with fail
      go_ret
      exact ⟨rfl, n, rfl⟩
/-- Marks of bytes from k on. -/
def mB (k n : Nat) : List Value := (List.range n).map fun j => .int .u8 (IntKind.u8.wrap ((k + j : Nat) : Int))
theorem mB_len (k n : Nat) : (mB k n).length = n := by simp [mB]
theorem mB_get (k n j : Nat) (h : j < n) : (mB k n)[j]? = some (.int .u8 (IntKind.u8.wrap ((k + j : Nat) : Int))) := by
  unfold mB
  rw [List.getElem?_map, List.getElem?_range h]
  rfl
set_option maxRecDepth 20000 in
set_option maxHeartbeats 2000000 in
theorem markByteS_any (lo : Nat) (v : Value) (n : Nat) (xs0 : List Value) (k : Nat) (w : World) (h : w.ownsRow lo 5 1 v n xs0) (hl : n ≤ 1048576) (hk : k ≤ 100000000) :
    Calls Tryd.prog 9 #[v, .int .i64 k] w fun e w' => e = .returned (.int .i64 ((k + n : Nat) : Int)) ∧ w'.ownsRow lo 5 1 v n (mB k n) ∧ w.grownBy w' v.ownBlock := by
  by_cases h0 : n = 0
  · subst h0
    have hx : xs0 = mB k 0 := by
      have := h.1
      exact List.eq_nil_of_length_eq_zero (by omega)
    have HH := hide (show w.ownsRow lo 5 1 v 0 (mB k 0) by rw [← hx]; exact h)
    obtain ⟨a, cap, rfl⟩ := row_form h
    clear h
    go_enter Tryd.func9, Tryd.ntmps9
    go_wp2_with fail
    go_loopw [1, 5] (fun m i wr => m = .int .i64 k ∧ i = .int .i64 0 ∧ w = wr) (fun _ _ _ => 0)
    case atStart => exact ⟨rfl, rfl, rfl⟩
    case round =>
      obtain ⟨rfl, rfl, rfl⟩ := hrel
      go_wp2_with fail
      go_ret
      exact ⟨by simp, HH.out, ⟨rfl, rfl, rfl, Nat.le_refl _, fun _ _ _ => rfl⟩⟩
  · obtain ⟨g, cap, hv⟩ : ∃ g cap, v = .slice (some ⟨g, 0, none⟩) n cap := by
      rcases h.2 with ⟨_, h1⟩ | ⟨g, cap, _, h1, _⟩
      · omega
      · exact ⟨g, cap, h1⟩
    subst hv
    have HO := hide h
    clear h
    go_enter Tryd.func9, Tryd.ntmps9
    go_wp2_with fail
    go_loopw [1, 5] (fun m i wr => ∃ (j : Nat) (xs : List Value), j ≤ n ∧ i = .int .i64 j ∧ m = .int .i64 ((k + j : Nat) : Int) ∧ wr.ownsRow lo 5 1 (.slice (some ⟨g, 0, none⟩) n cap) n xs ∧ Hid (∀ q, q < j → xs[q]? = some (.int .u8 (IntKind.u8.wrap ((k + q : Nat) : Int)))) ∧ Hid (w.grownBy wr (some g))) (fun _ i _ => n - (intOf i).toNat)
    case atStart => exact ⟨0, _, by omega, rfl, rfl, HO.out, fun q h => by omega, ⟨rfl, rfl, rfl, Nat.le_refl _, fun _ _ _ => rfl⟩⟩
    case round =>
      obtain ⟨j, xs, hj, rfl, rfl, hownr, HX, HG⟩ := hrel
      clear HO
      by_cases hlt : j < n
      · have hlt' : (j : Int) < n := by omega
        have HST := hide (hownr.stored j (.int .u8 (IntKind.u8.wrap ((k + j : Nat) : Int)))).1
        have hfz := hownr.frozenAt j
        have hce := hownr.cellAt j (by omega)
        have hxl := hownr.1
        rw [List.getElem?_eq_getElem (by omega)] at hce
        have HX2 : Hid (∀ q, q < j + 1 → (xs.set j (.int .u8 (IntKind.u8.wrap ((k + j : Nat) : Int))))[q]? = some (.int .u8 (IntKind.u8.wrap ((k + q : Nat) : Int)))) := by
          show ∀ q, _
          intro q hq
          by_cases e : j = q
          · subst e; rw [List.getElem?_set_self (by omega)]
          · rw [List.getElem?_set_ne e]; exact HX.out q (by omega)
        have HG2 := hide (HG.out.trans (grown_set wr ⟨g, j, none⟩ (.int .u8 (IntKind.u8.wrap ((k + j : Nat) : Int)))))
        obtain ⟨K, hK⟩ : ∃ K, K = k + j := ⟨_, rfl⟩
        have HKE := hide hK
        rw [← hK] at HST HX2 HG2 ⊢
        have hK2 : K ≤ 200000000 := by omega
        clear HX HG hK hownr
        go_wp2_with fail
        go_roundw
        case rel => exact ⟨j + 1, _, by omega, by go_num, by have := HKE.out; rw [show k + (j + 1) = K + 1 by omega]; go_num, HST.out, HX2, HG2⟩
        case measure => simp [intOf]; omega
      · have hjk : j = n := by omega
        subst hjk
        have hxs : xs = mB k j := by
          refine List.ext_getElem? fun q => ?_
          by_cases hq : q < j
          · rw [HX.out q hq, mB_get k j q hq]
          · have h1 := hownr.1
            rw [List.getElem?_eq_none (by omega), List.getElem?_eq_none (by rw [mB_len]; omega)]
        have HK : Hid (wr.ownsRow lo 5 1 (.slice (some ⟨g, 0, none⟩) j cap) j (mB k j)) := by
          show World.ownsRow _ _ _ _ _ _ _
          rw [← hxs]
          exact hownr
        clear hownr hxs HX
        go_wp2_with fail
        go_ret
        exact ⟨rfl, HK.out, HG.out⟩

theorem own_bytesV {base : Nat} {w : World} {v : Value} {T : ByteArray} (h : w.ownsRow base 5 1 v T.size (bC T.data.toList)) : BytesV w v T := by
  obtain ⟨a, cap, rfl, h1, h2, h3⟩ := own_cells h
  refine ⟨a, cap, rfl, h1, h2, fun h0 => ?_⟩
  obtain ⟨g, rfl, hc⟩ := h3 h0
  refine ⟨g, 0, rfl, fun i hi => ?_⟩
  rw [Nat.zero_add, hc i hi, bC_get _ i (by simpa using hi), get_data T i hi]
theorem Tryd.info5 : (Tryd.prog.info? 5).map (fun i => (i.zero, i.size, i.bytes)) = some (some (.int .u8 0), 1, 1) := by kernel_rfl
set_option maxHeartbeats 1000000 in
theorem toByteS_any (v : Value) (T : ByteArray) (w : World) (h : BytesV w v T) (hl : T.size ≤ 1048576) :
    Calls Tryd.prog 5 #[v] w fun e w' => ∃ g, e = .returned (.slice (some ⟨g, 0, none⟩) T.size T.size) ∧ w'.ownsRow w.heap.size 5 1 (.slice (some ⟨g, 0, none⟩) T.size T.size) T.size (bC T.data.toList) ∧ Below w.heap.size w w' := by
  obtain ⟨i0, hi, hz0, hz1, hz2⟩ := info_parts Tryd.info5
  obtain ⟨a, cap, rfl, hlc, hcm, hc⟩ := h
  have HC := hide hc
  clear hc
  go_enter Tryd.func5, Tryd.ntmps5
  go_wp2_with (at_make; refine wpList_make_full _ rfl _ _ 22 rfl w.heap.size 5 i0 (.int .u8 0) 1 Tryd.underlying22 hi hz0 hz1 .i64 .i64 _ _ T.size rfl rfl rfl rfl (by rw [hz2]; omega) (by unfold maxLen; omega) (Nat.le_refl _) ?_; intro w1 hown hgrow)
  go_loopw [4] (fun i wr => ∃ (k : Nat) (xs : List Value), k ≤ T.size ∧ i = .int .i64 k ∧ wr.ownsRow w.heap.size 5 1 (.slice (some ⟨w.heap.size, 0, none⟩) T.size T.size) T.size xs ∧ Hid (∀ j (h : j < T.size), j < k → xs[j]? = some (.int .u8 (T[j].toNat : Int))) ∧ Below w.heap.size w wr) (fun i _ => T.size - (intOf i).toNat)
  case atStart => exact ⟨0, _, by omega, rfl, hown, fun j _ h => by omega, (Below.refl _ _).grown hgrow (Nat.le_refl _) (fun k hk => by cases hk)⟩
  case round =>
    obtain ⟨k, xs, hk, rfl, hownr, HX, hbel⟩ := hrel
    by_cases hlt : k < T.size
    · obtain ⟨b, off, ha, hc⟩ := HC.out (by omega)
      subst ha
      have c1 := hc k hlt
      have c1' := hbel.cell (p := ⟨b, off + k, none⟩) (lt_cell c1)
      rw [c1] at c1'
      have hst := hownr.stored k (.int .u8 (T[k].toNat : Int))
      have hfz := hownr.frozenAt k
      have hce := hownr.cellAt k (by omega)
      have hxl := hownr.1
      obtain ⟨u, hu⟩ : ∃ u, xs[k]? = some u := ⟨xs[k]'(by omega), by simp⟩
      rw [hu] at hce
      have HX2 : Hid (∀ j (h : j < T.size), j < k + 1 → (xs.set k (.int .u8 (T[k].toNat : Int)))[j]? = some (.int .u8 (T[j].toNat : Int))) := by
        intro j hj hjk
        rw [List.getElem?_set]
        by_cases e : k = j
        · subst e; rw [if_pos rfl, if_pos (by omega)]
        · rw [if_neg e]; exact HX.out j hj (by omega)
      clear hc c1 hu hown hgrow
      generalize (T[k].toNat : Int) = q at *
      go_wp2_with fail
      go_roundw
      case rel => exact ⟨k + 1, _, by omega, by go_num, hst.1, HX2, hbel.setCell (Nat.le_refl _) _⟩
      case measure => simp [intOf]; omega
    · have hxs : xs = bC T.data.toList := by
        refine List.ext_getElem? fun j => ?_
        by_cases hj : j < T.size
        · rw [HX.out j hj (by omega), bC_get _ j (by simpa using hj), get_data T j hj]
        · have := hownr.1
          rw [List.getElem?_eq_none (by omega), List.getElem?_eq_none (by unfold bC; rw [List.length_map, Array.length_toList]; exact Nat.le_of_not_lt hj)]
      rw [hxs] at hownr
      have HO := hide hownr
      clear hown hgrow hownr
      go_wp2_with fail
      go_ret
      exact ⟨_, rfl, HO.out, hbel⟩
end Go.Proofs.YtojpigabcahbbaaDoor
