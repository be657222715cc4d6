/- What the draw of a text for Tokens answers: some row of bytes. -/
import Derived.Test.YtmdcdapjjodpiaaDoorDtk
namespace Go.Proofs.YtmdcdapjjodpiaaDoor
open Go.ChangeShapes Go.WideShapes Go.ChangeAt Go.RowKit

def bC (bs : List UInt8) : List Value := bs.map fun c => .int .u8 (c.toNat : Int)
/-- An owned row of bytes, its cells. -/
theorem own_cells {base : Nat} {w : World} {v : Value} {n : Nat} {xs : List Value} (h : w.ownsRow base 5 1 v n xs) :
    ∃ a cap, v = .slice a n cap ∧ n ≤ cap ∧ cap ≤ maxLen ∧ (0 < n → ∃ g, a = some ⟨g, 0, none⟩ ∧ ∀ j, j < n → w.cell? ⟨g, j, none⟩ = xs[j]?) := by
  have h0 := h
  obtain ⟨h1, h2⟩ := h
  rcases h2 with ⟨rfl, rfl⟩ | ⟨g, cap, cur, rfl, h4, h5, h6, h7, _⟩
  · exact ⟨none, 0, rfl, Nat.le_refl _, by unfold maxLen; omega, fun h => by omega⟩
  · exact ⟨_, cap, rfl, h6, h7, fun _ => ⟨g, rfl, fun j hj => World.ownsRow.cellAt h0 j (by omega)⟩⟩
theorem bC_get (bs : List UInt8) (j : Nat) (h : j < bs.length) : (bC bs)[j]? = some (.int .u8 (bs[j].toNat : Int)) := by
  unfold bC
  rw [List.getElem?_map, List.getElem?_eq_getElem h]
  rfl
theorem own_bytesV {base : Nat} {w : World} {v : Value} {T : ByteArray} (h : w.ownsRow base 5 1 v T.size (bC T.data.toList)) : BytesV w v T := by
  obtain ⟨a, cap, rfl, h1, h2, h3⟩ := own_cells h
  refine ⟨a, cap, rfl, h1, h2, fun h0 => ?_⟩
  obtain ⟨g, rfl, hc⟩ := h3 h0
  refine ⟨g, 0, rfl, fun i hi => ?_⟩
  rw [Nat.zero_add, hc i hi, bC_get _ i (by simpa using hi), get_data T i hi]
theorem Tryd.info5 : (Tryd.prog.info? 5).map (fun i => (i.zero, i.size, i.bytes)) = some (some (.int .u8 0), 1, 1) := by kernel_rfl
theorem made_zero (m : Nat) : (madeCells (Value.int .u8 0).cells (m * 1)).toList = bC (⟨Array.replicate m 0⟩ : ByteArray).data.toList := by
  rw [Nat.mul_one]
  unfold madeCells bC
  have e : (Value.int .u8 0).cells = #[Value.int .u8 0] := rfl
  rw [e]
  refine List.ext_getElem (by simp) (fun i h1 h2 => ?_)
  simp [Nat.mod_one]
/-- Some row of bytes. -/
def DtOut (w : World) (e : Ending) (w' : World) : Prop := ∃ (v : Value) (T : ByteArray), e = .returned v ∧ BytesV w' v T ∧ (∃ b cap, v = .slice (some ⟨b, 0, none⟩) T.size cap) ∧ T.size ≤ 2000000000000 ∧ Below w.heap.size w w'
theorem conv_row (S : ByteArray) (W : World) (h : S.size ≤ 2000000000000) : BytesV (Lib.bytesWorld W 5 S) (.slice (some ⟨W.heap.size, 0, none⟩) S.size (grownCap W S.size 0 5)) S :=
  ⟨_, _, rfl, grownCap_ge _ _ _ _, grownCap_le_maxLen _ _ _ _ (by unfold maxLen; omega), fun _ => ⟨_, 0, rfl, conv_bytes S W⟩⟩
set_option maxRecDepth 20000 in
set_option maxHeartbeats 2000000 in
theorem drawTokens_any (v : Value) (T : ByteArray) (w : World) (h : BytesV w v T) :
    Calls Tryd.prog 4 #[v] w fun e w' => DtOut w e w' := by
  have HV := hide h
  obtain ⟨i0, hi0, hz0, hz1, hz2⟩ := info_parts Tryd.info5
  obtain ⟨a, cap, rfl, _, _, _⟩ := h
  go_enter Tryd.func4, Tryd.ntmps4
  go_upto_region 2 with (first
    | (go_at_call 8; refine (l1Open_any _ T _ HV.out).mono ?_; rintro e w1 ⟨rfl, hr1, hb1⟩; have HR1 := hide hr1; have HB1 := hide hb1; have lw1 := hb1.size; clear hr1 hb1)
    | fail)
  go_upto_region 3 with (first
    | (go_at_call 9; refine (next_any _ _ _ HR1.out).mono ?_; rintro e w2 ⟨k, rfl, hk, hr2, hg2⟩; have HR2 := hide hr2; have HB2 := hide (HB1.out.trans (below_of hg2 (Nat.le_refl _) lw1)); clear hr2 hg2)
    | fail)
  have lw2 : w.heap.size < w2.heap.size := HR2.out.lt.2
  by_cases k255 : k = 255
  · have kb : ((k : Int) == 255) = true := by simp [k255]
    clear k255
    go_wp2_with (first
      | (go_at_call 9; refine (next_any _ _ _ HR2.out).mono ?_; rintro e w3 ⟨q, rfl, hq, hr3, hg3⟩; have HB3 := hide (HB2.out.trans (below_of hg3 (Nat.le_refl _) (Nat.le_of_lt lw2))); have lw3 := HB3.out.size
         obtain ⟨m, hm⟩ : ∃ m, m = 20000 + q % 2 := ⟨_, rfl⟩
         have hm2 : m ≤ 20001 := by omega
         have hme : 20000 + (q : Int) % 2 = (m : Int) := by omega
         clear hr3 hg3 hm)
      | (at_make; refine wpList_make_full _ rfl _ _ 22 rfl w3.heap.size 5 i0 (.int .u8 0) 1 Tryd.underlying22 hi0 hz0 hz1 .i64 .i64 _ _ m rfl rfl (by first | rfl | exact hme) (by first | rfl | exact hme) (by rw [hz2]; omega) (by unfold maxLen; omega) (Nat.le_refl _) ?_; intro w4 hown hgrow; rw [made_zero] at hown; have HO := hide hown; have HB4 := hide (HB3.out.grown hgrow lw3 (fun k hk => by cases hk)); clear hown hgrow)
      | fail)
    go_ret
    have hz : (⟨Array.replicate m 0⟩ : ByteArray).size = m := by show (Array.replicate m (0 : UInt8)).size = m; simp
    refine ⟨_, ⟨Array.replicate m 0⟩, rfl, own_bytesV (base := w3.heap.size) (by rw [hz]; exact HO.out), ⟨w3.heap.size, m, by rw [hz]; rfl⟩, by omega, HB4.out⟩
  · have kb : ((k : Int) == 255) = false := by simp; omega
    clear k255 hz0 hz1 hz2 hi0
    go_upto_region 7 with (first
      | (go_at_call 10; refine (source_any _ _ _ HR2.out).mono ?_; rintro e w3 ⟨⟨s, rfl, hs⟩, hr3, hb3⟩; have HR3 := hide hr3; have HB3 := hide (HB2.out.trans hb3); clear hr3 hb3)
      | fail)
    obtain ⟨m, hm⟩ : ∃ m : Nat, (k : Int) % 5 = (m : Int) := ⟨k % 5, by omega⟩
    have hm3 : m ≤ 4 := by omega
    go_loopw [5, 6] (fun ov iv wr => ∃ (j : Nat) (out : ByteArray), j ≤ m ∧ out.size ≤ 1000000000000 + j * 200 ∧ iv = .int .i64 j ∧ ov = .string out ∧ Hid (RdQ w.heap.size wr w.heap.size) ∧ Hid (Below w.heap.size w wr)) (fun _ iv _ => m - (intOf iv).toNat)
    case atStart => exact ⟨0, s, by omega, by omega, rfl, rfl, HR3.out, HB3.out⟩
    case round =>
      obtain ⟨j, out, hj, ho, rfl, rfl, HQ, HB⟩ := hrel
      have lwr : w.heap.size < wr.heap.size := HQ.out.lt.2
      by_cases hlt : j < m
      · have hlt' : (j : Int) < (m : Int) := by omega
        have HR4 := hide (HQ.out.keep (bel_alloc (Below.refl _ _) (TB dtL)))
        have HB4 := hide (HB.out.alloc (by omega) (TB dtL))
        have HC4 := hide (tb_cell wr dtL)
        have hnr : wr.heap.size ≠ w.heap.size := by omega
        go_wp2_with (first
          | (go_at_call 11; refine (pick_any _ _ wr.heap.size dtL _ HR4.out (by decide) hnr (by decide) HC4.out).mono ?_; rintro e w5 ⟨x, rfl, hx, hr5, hg5⟩
             have hxz := size_mem dtL_ok hx
             have HR5 := hide hr5
             have HB5 := hide (HB4.out.trans (below_of hg5 (Nat.le_refl _) (by simp; omega)))
             have z1 := strAdd out x (by omega)
             have HXZ := hide (show (out ++ x).size ≤ 1000000000000 + (j + 1) * 200 from by rw [ByteArray.size_append]; omega)
             clear hx hr5 hg5)
          | fail)
        go_roundw
        case rel => exact ⟨j + 1, out ++ x, by omega, HXZ.out, by go_num, rfl, HR5.out, HB5.out⟩
        case measure => simp [intOf]; omega
      · have hlt' : ¬ (j : Int) < (m : Int) := by omega
        have hcs := conv_str out
        go_wp2_with fail
        go_ret
        exact ⟨_, out, rfl, conv_row out wr (by omega), ⟨_, _, rfl⟩, by omega, HB.out.trans (Go.Joins.below_bytesWorld w.heap.size wr 5 out (by omega))⟩
end Go.Proofs.YtmdcdapjjodpiaaDoor
