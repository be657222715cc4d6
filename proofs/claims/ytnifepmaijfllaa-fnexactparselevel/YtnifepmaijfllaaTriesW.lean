/- The walk of the specification's l1Tries. -/
import Derived.Test.YtnifepmaijfllaaTries
import Derived.Test.YtnifepmaijfllaaIv
namespace Go.Proofs.Ytnifepmaijfllaa
open Go.ChangeShapes Go.WideShapes Go.ChangeAt Go.RowKit

set_option maxRecDepth 10000 in
set_option maxHeartbeats 4000000 in
theorem l1Tries_any (n : Nat) (hn : n ≤ 12) (w : World) :
    Calls Try.prog 124 #[.int .i64 n] w fun e w' => ∃ v, e = .returned v ∧ RowsAt w' v (tries n) ∧ Below w.heap.size w w' := by
  obtain ⟨i3, hi3, hz3, hs3, hb3⟩ := info_parts Try.info3
  obtain ⟨i35, hi35, hz35, hs35, hb35⟩ := info_parts Try.info35
  obtain ⟨N, hN⟩ : ∃ N : Nat, N = 2 ^ n := ⟨_, rfl⟩
  have hNle : N ≤ 4096 := by rw [hN]; exact pow_le n hn
  have HWN : Hid (wrap64 (2 ^ n) = (N : Int)) := by show _ = _; rw [hN]; exact wrap_pow n hn
  have HTR : Hid (tries n = triesOf n N) := by show _ = _; rw [hN]; rfl
  clear hN
  have hst := World.ownsRow_lit (base := w.heap.size) (e := 35) (size := 1) w #[] 0 (Nat.le_refl _) (by unfold maxLen; omega) rfl
  have HST := hide hst
  clear hst
  go_enter Try.func124, Try.ntmps124
  go_wp2_with fail
  go_loopw [3, 4] (fun o i wr => ∃ (set : Nat) (us : List Value) (rows : List (List Int)), set ≤ N ∧ i = .int .i64 set ∧ wr.ownsRow w.heap.size 35 1 o us.length us ∧ Hid (rows = triesOf n set) ∧ Hid (RowsTag wr us rows) ∧ us.length ≤ set * (n + 1) ∧ Below w.heap.size w wr) (fun _ i _ => N - (intOf i).toNat)
  case atStart => exact ⟨0, [], [], by omega, rfl, HST.out, rfl, ⟨rfl, fun j u ks h => by simp at h⟩, by simp, bel_alloc (Below.refl _ _) _⟩
  case round =>
    obtain ⟨set, us, rows, hset, rfl, hown, HR, HT, hul, hbel⟩ := hrel
    obtain ⟨oa, oc, rfl⟩ := row_form hown
    by_cases hlt : set < N
    · have hlt' : (set : Int) < wrap64 (2 ^ n) := by rw [HWN.out]; omega
      have hul2 : us.length ≤ 53248 := by
        have : set * (n + 1) ≤ 4096 * 13 := Nat.mul_le_mul (by omega) (by omega)
        omega
      go_wp2_with fail
      go_loopw [3, 5] (fun o i wr2 => ∃ (big : Nat) (us2 : List Value) (rows2 : List (List Int)), big ≤ n + 1 ∧ i = .int .i64 big ∧ wr2.ownsRow w.heap.size 35 1 o us2.length us2 ∧ Hid (rows2 = triesOf n set ++ triesTo n set big) ∧ Hid (RowsTag wr2 us2 rows2) ∧ us2.length ≤ set * (n + 1) + big ∧ us2.length ≤ 53248 + big ∧ Below w.heap.size w wr2) (fun _ i _ => n + 1 - (intOf i).toNat)
      case atStart => exact ⟨0, us, rows, by omega, rfl, hown, by show _ = _; rw [HR.out]; simp [triesTo], HT, by omega, by omega, hbel⟩
      case round =>
        clear hown HR HT hul hbel hul2
        rename World => W2
        obtain ⟨big, us, rows, hbig, rfl, hown, HR, HT, hul, hul2, hbel⟩ := hrel
        obtain ⟨oa, oc, rfl⟩ := row_form hown
        by_cases hlb : big < n + 1
        · have hlb' : (big : Int) ≤ n := by omega
          have HOWN := hide hown
          have hst3 := World.ownsRow_lit (base := W2.heap.size) (e := 3) (size := 1) W2 #[] 0 (Nat.le_refl _) (by unfold maxLen; omega) rfl
          have HST3 := hide hst3
          clear hst3 hown
          go_wp2_with fail
          go_loopw [6, 7] (fun o i wr3 => ∃ (k : Nat), k ≤ n ∧ i = .int .i64 k ∧ wr3.ownsRow W2.heap.size 3 1 o k ((rowTo set big k).map (Value.int .i64)) ∧ Below W2.heap.size W2 wr3) (fun _ i _ => n - (intOf i).toNat)
          case atStart => exact ⟨0, by omega, rfl, HST3.out, bel_alloc (Below.refl _ _) _⟩
          case round =>
            obtain ⟨k, hk, rfl, hown3, hbel3⟩ := hrel
            obtain ⟨ra, rc, rfl⟩ := row_form hown3
            have hl3 : (rowTo set big k).length = k := rowTo_len set big k
            by_cases hlk : k < n
            · have hlk' : (k : Int) < n := by omega
              obtain ⟨x, hx⟩ : ∃ x, tryAt set big k = x := ⟨_, rfl⟩
              have HNX : Hid ((rowTo set big (k + 1)).map (Value.int .i64) = (rowTo set big k).map (Value.int .i64) ++ [.int .i64 x]) := by show _ = _; simp [rowTo, hx]
              have hbit := bit_of set k
              by_cases q1 : inSet set k = true
              · rw [q1] at hbit
                simp only [tryAt, q1, if_true] at hx hbit
                subst hx
                go_wp2_with (at_builtin; refine wpList_append_own _ rfl _ _ 35 rfl W2.heap.size 3 i3 (.int .i64 0) 1 8 Try.underlying35 hi3 hz3 hs3 hb3 rfl (by decide) _ _ _ rfl (hown3.alloc _) ⟨_, 0, none⟩ 1 1 [.int .i64 0] rfl rfl ?c1 ?c2 ?c3 ?c4 ?c5 ?_)
                case c1 => exact cell_one_new _ _ _
                case c2 => first | rfl | (intro u hu; simp at hu; subst hu; rfl)
                case c3 => unfold maxLen; omega
                case c4 => omega
                case c5 => have := hbel3.size; simp; omega
                intro v4 w4 hown4 hgrow4 _
                have hbel4 : Below W2.heap.size W2 w4 := (bel_alloc hbel3 _).grown hgrow4 (bel_alloc hbel3 _).size (fun j hj => (hown3.lt j hj).1)
                have HOWN4 : Hid (w4.ownsRow W2.heap.size 3 1 v4 (k + 1) ((rowTo set big (k + 1)).map (Value.int .i64))) := by
                  show World.ownsRow _ _ _ _ _ _ _
                  rw [HNX.out]; exact hown4
                obtain ⟨ra4, rc4, rfl⟩ := row_form hown4
                clear hown4 hgrow4 hown3
                go_wp2_with fail
                go_roundw
                case rel => exact ⟨k + 1, by omega, by go_num, HOWN4.out, hbel4⟩
                case measure => simp [intOf]; omega
              · have q1' : inSet set k = false := by simpa using q1
                rw [q1'] at hbit
                simp only [tryAt, q1', Bool.false_eq_true, if_false] at hx hbit
                by_cases q2 : k = big
                · rw [if_pos q2] at hx
                  subst hx
                  have e2 : ((k : Int) == (big : Int)) = true := by simp [q2]
                  clear q2
                  go_wp2_with (at_builtin; refine wpList_append_own _ rfl _ _ 35 rfl W2.heap.size 3 i3 (.int .i64 0) 1 8 Try.underlying35 hi3 hz3 hs3 hb3 rfl (by decide) _ _ _ rfl (hown3.alloc _) ⟨_, 0, none⟩ 1 1 [.int .i64 1000] rfl rfl ?c1 ?c2 ?c3 ?c4 ?c5 ?_)
                  case c1 => exact cell_one_new _ _ _
                  case c2 => first | rfl | (intro u hu; simp at hu; subst hu; rfl)
                  case c3 => unfold maxLen; omega
                  case c4 => omega
                  case c5 => have := hbel3.size; simp; omega
                  intro v4 w4 hown4 hgrow4 _
                  have hbel4 : Below W2.heap.size W2 w4 := (bel_alloc hbel3 _).grown hgrow4 (bel_alloc hbel3 _).size (fun j hj => (hown3.lt j hj).1)
                  have HOWN4 : Hid (w4.ownsRow W2.heap.size 3 1 v4 (k + 1) ((rowTo set big (k + 1)).map (Value.int .i64))) := by
                    show World.ownsRow _ _ _ _ _ _ _
                    rw [HNX.out]; exact hown4
                  obtain ⟨ra4, rc4, rfl⟩ := row_form hown4
                  clear hown4 hgrow4 hown3
                  go_wp2_with fail
                  go_roundw
                  case rel => exact ⟨k + 1, by omega, by go_num, HOWN4.out, hbel4⟩
                  case measure => simp [intOf]; omega
                · rw [if_neg q2] at hx
                  subst hx
                  have e2 : ((k : Int) == (big : Int)) = false := by rw [beq_eq_false_iff_ne]; omega
                  clear q2
                  go_wp2_with (at_builtin; refine wpList_append_own _ rfl _ _ 35 rfl W2.heap.size 3 i3 (.int .i64 0) 1 8 Try.underlying35 hi3 hz3 hs3 hb3 rfl (by decide) _ _ _ rfl (hown3.alloc _) ⟨_, 0, none⟩ 1 1 [.int .i64 1] rfl rfl ?c1 ?c2 ?c3 ?c4 ?c5 ?_)
                  case c1 => exact cell_one_new _ _ _
                  case c2 => first | rfl | (intro u hu; simp at hu; subst hu; rfl)
                  case c3 => unfold maxLen; omega
                  case c4 => omega
                  case c5 => have := hbel3.size; simp; omega
                  intro v4 w4 hown4 hgrow4 _
                  have hbel4 : Below W2.heap.size W2 w4 := (bel_alloc hbel3 _).grown hgrow4 (bel_alloc hbel3 _).size (fun j hj => (hown3.lt j hj).1)
                  have HOWN4 : Hid (w4.ownsRow W2.heap.size 3 1 v4 (k + 1) ((rowTo set big (k + 1)).map (Value.int .i64))) := by
                    show World.ownsRow _ _ _ _ _ _ _
                    rw [HNX.out]; exact hown4
                  obtain ⟨ra4, rc4, rfl⟩ := row_form hown4
                  clear hown4 hgrow4 hown3
                  go_wp2_with fail
                  go_roundw
                  case rel => exact ⟨k + 1, by omega, by go_num, HOWN4.out, hbel4⟩
                  case measure => simp [intOf]; omega
            · obtain rfl : n = k := by omega
              have hrt : rowTo set big n = tryRow n set big := rowTo_eq set big n
              clear hl3
              have hbit := bit_of set big
              by_cases q1 : big = n
              · have hok : tryOk n set big = true := by simp [tryOk, q1]
                have e1 : ((big : Int) == (n : Int)) = true := by simp [q1]
                clear q1 hbit
                have HTAG : Hid (TagRow wr (.slice ra n rc) (tryRow n set big)) := tag_of_row (base := W2.heap.size) (by rw [tryRow_len, ← hrt]; exact hown3)
                clear hown3
                go_wp2_with (at_builtin; refine wpList_append_own _ rfl _ _ 154 rfl w.heap.size 35 i35 (.slice none 0 0) 1 24 Try.underlying154 hi35 hz35 hs35 hb35 rfl (by decide) _ _ _ rfl ((row_keep hbel3 HOWN.out).alloc _) ⟨_, 0, none⟩ 1 1 [.slice ra n rc] rfl rfl ?c1 ?c2 ?c3 ?c4 ?c5 ?_)
                case c1 => exact cell_one_new _ _ _
                case c2 => first | rfl | (intro u hu; simp at hu; subst hu; rfl)
                case c3 => unfold maxLen; omega
                case c4 => omega
                case c5 => have := hbel3.size; have := hbel.size; simp; omega
                intro v5 w5 hown5 hgrow5 _
                have hba : Below W2.heap.size W2 (wr.alloc (.cells #[.slice ra n rc] 35)) := bel_alloc hbel3 _
                have hrow5 := (row_keep hbel3 HOWN.out).alloc (.cells #[.slice ra n rc] 35)
                have hbel5 : Below w.heap.size w w5 := (bel_trans hbel hba).grown hgrow5 (bel_trans hbel hba).size (fun j hj => (HOWN.out.lt j hj).1)
                have HT5 : Hid (RowsTag w5 (us ++ [Value.slice ra n rc]) (rows ++ [tryRow n set big])) :=
                  (((HT.out.map (fun v ks h => h.keep hba)).map (fun v ks h => h.grown hrow5 hgrow5))).snoc ((HTAG.out.keep (bel_alloc (Below.refl _ _) _)).grown hrow5 hgrow5)
                have HOWN5 : Hid (w5.ownsRow w.heap.size 35 1 v5 (us ++ [Value.slice ra n rc]).length (us ++ [Value.slice ra n rc])) := by
                  show World.ownsRow _ _ _ _ _ _ _
                  simpa using hown5
                have HR5 : Hid (rows ++ [tryRow n set big] = triesOf n set ++ triesTo n set (big + 1)) := by
                  show _ = _
                  rw [HR.out, triesTo, if_pos hok]; simp
                obtain ⟨oa5, oc5, rfl⟩ := row_form hown5
                clear hown5 hgrow5 hrow5 hba HTAG HT HR HOWN
                go_wp2_with fail
                go_roundw
                case rel => exact ⟨big + 1, us ++ [Value.slice ra n rc], rows ++ [tryRow n set big], by omega, by go_num, HOWN5.out, HR5, HT5, by simp; omega, by simp; omega, hbel5⟩
                case measure => simp [intOf]; omega
              · have e1 : ((big : Int) == (n : Int)) = false := by rw [beq_eq_false_iff_ne]; omega
                by_cases q2 : inSet set big = true
                · have hok : tryOk n set big = false := by simp [tryOk, q1, q2]
                  rw [q2] at hbit
                  simp only [if_true] at hbit
                  have HR5 : Hid (rows = triesOf n set ++ triesTo n set (big + 1)) := by
                    show _ = _
                    rw [HR.out, triesTo, hok]; simp
                  have HT5 : Hid (RowsTag wr us rows) := HT.out.map (fun v ks h => h.keep hbel3)
                  have hown5 := row_keep hbel3 HOWN.out
                  have hbel5 := bel_trans hbel hbel3
                  clear HR HT HOWN hown3 q1
                  go_wp2_with fail
                  go_roundw
                  case rel => exact ⟨big + 1, us, rows, by omega, by go_num, hown5, HR5, HT5, by omega, by omega, hbel5⟩
                  case measure => simp [intOf]; omega
                · have q2' : inSet set big = false := by simpa using q2
                  have hok : tryOk n set big = true := by simp [tryOk, q2']
                  rw [q2'] at hbit
                  simp only [Bool.false_eq_true, if_false] at hbit
                  clear q1 q2
                  have HTAG : Hid (TagRow wr (.slice ra n rc) (tryRow n set big)) := tag_of_row (base := W2.heap.size) (by rw [tryRow_len, ← hrt]; exact hown3)
                  clear hown3
                  go_wp2_with (at_builtin; refine wpList_append_own _ rfl _ _ 154 rfl w.heap.size 35 i35 (.slice none 0 0) 1 24 Try.underlying154 hi35 hz35 hs35 hb35 rfl (by decide) _ _ _ rfl ((row_keep hbel3 HOWN.out).alloc _) ⟨_, 0, none⟩ 1 1 [.slice ra n rc] rfl rfl ?c1 ?c2 ?c3 ?c4 ?c5 ?_)
                  case c1 => exact cell_one_new _ _ _
                  case c2 => first | rfl | (intro u hu; simp at hu; subst hu; rfl)
                  case c3 => unfold maxLen; omega
                  case c4 => omega
                  case c5 => have := hbel3.size; have := hbel.size; simp; omega
                  intro v5 w5 hown5 hgrow5 _
                  have hba : Below W2.heap.size W2 (wr.alloc (.cells #[.slice ra n rc] 35)) := bel_alloc hbel3 _
                  have hrow5 := (row_keep hbel3 HOWN.out).alloc (.cells #[.slice ra n rc] 35)
                  have hbel5 : Below w.heap.size w w5 := (bel_trans hbel hba).grown hgrow5 (bel_trans hbel hba).size (fun j hj => (HOWN.out.lt j hj).1)
                  have HT5 : Hid (RowsTag w5 (us ++ [Value.slice ra n rc]) (rows ++ [tryRow n set big])) :=
                    (((HT.out.map (fun v ks h => h.keep hba)).map (fun v ks h => h.grown hrow5 hgrow5))).snoc ((HTAG.out.keep (bel_alloc (Below.refl _ _) _)).grown hrow5 hgrow5)
                  have HOWN5 : Hid (w5.ownsRow w.heap.size 35 1 v5 (us ++ [Value.slice ra n rc]).length (us ++ [Value.slice ra n rc])) := by
                    show World.ownsRow _ _ _ _ _ _ _
                    simpa using hown5
                  have HR5 : Hid (rows ++ [tryRow n set big] = triesOf n set ++ triesTo n set (big + 1)) := by
                    show _ = _
                    rw [HR.out, triesTo, if_pos hok]; simp
                  obtain ⟨oa5, oc5, rfl⟩ := row_form hown5
                  clear hown5 hgrow5 hrow5 hba HTAG HT HR HOWN
                  go_wp2_with fail
                  go_roundw
                  case rel => exact ⟨big + 1, us ++ [Value.slice ra n rc], rows ++ [tryRow n set big], by omega, by go_num, HOWN5.out, HR5, HT5, by simp; omega, by simp; omega, hbel5⟩
                  case measure => simp [intOf]; omega
        · have hbn : big = n + 1 := by omega
          have HR2 : Hid (rows = triesOf n (set + 1)) := by show _ = _; rw [HR.out, hbn]; rfl
          have hul3 : us.length ≤ (set + 1) * (n + 1) := by rw [Nat.succ_mul]; omega
          clear hul hul2 HR hbn
          go_wp2_with fail
          go_roundw
          case rel => exact ⟨set + 1, us, rows, by omega, by go_num, hown, HR2, HT, hul3, hbel⟩
          case measure => simp [intOf]; omega
    · have hlt' : wrap64 (2 ^ n) ≤ (set : Int) := by rw [HWN.out]; omega
      have hsn : set = N := by omega
      have hrows := rows_at hown HT.out
      rw [HR.out, hsn, ← HTR.out] at hrows
      have HRW := hide hrows
      clear hrows hsn HR HT hown hul
      go_wp2_with fail
      go_ret
      exact ⟨_, rfl, HRW.out, hbel⟩
end Go.Proofs.Ytnifepmaijfllaa
