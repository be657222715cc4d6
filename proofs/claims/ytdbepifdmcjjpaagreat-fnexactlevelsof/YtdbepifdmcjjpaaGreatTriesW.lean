/- What the specification's l1Tries answers: the rows of values that are tried, each in memory of its own. -/
import Derived.Test.YtdbepifdmcjjpaaGreatSign
import Derived.Test.YtdbepifdmcjjpaaGreatSpecL
import Derived.Test.YtdbepifdmcjjpaaGreatIv
namespace Go.Proofs.YtdbepifdmcjjpaaGreat
open Go.ChangeShapes Go.WideShapes Go.ChangeAt Go.RowKit

theorem i64_and1 (n : Int) : bits .and .i64 n 1 = n % 2 := by
  have h1 : (BitVec.ofInt 64 1).toNat = 2 ^ 1 - 1 := by decide
  have key : (BitVec.ofInt 64 n &&& BitVec.ofInt 64 1).toNat = (n % ((2 ^ 64 : Nat) : Int)).toNat % 2 ^ 1 := by
    rw [BitVec.toNat_and, BitVec.toNat_ofInt, h1, Nat.and_two_pow_sub_one_eq_mod]
  show IntKind.i64.wrap ((BitVec.ofInt 64 n &&& BitVec.ofInt 64 1).toNat : Nat) = n % 2
  rw [key, IntKind.wrap_i64]
  omega
theorem bit_of (set i : Nat) : bits .and .i64 ((set : Int) / 2 ^ i) 1 = if inSet set i then 1 else 0 := by
  rw [i64_and1]
  unfold inSet
  have e : ((set : Int) / 2 ^ i) = ((set / 2 ^ i : Nat) : Int) := by simp
  rw [e]
  by_cases h : set / 2 ^ i % 2 = 1
  · rw [decide_eq_true h, if_pos rfl]; omega
  · rw [decide_eq_false h]; simp; omega

/-- A row of numbers in a block that bears their type. -/
def TagRow (w : World) (v : Value) (ks : List Int) : Prop :=
  ∃ a cap, v = .slice a ks.length cap ∧ ks.length ≤ cap ∧ cap ≤ maxLen ∧
    (0 < ks.length → ∃ g cs, a = some ⟨g, 0, none⟩ ∧ w.heap[g]? = some (.cells cs 3 (0, 0)) ∧ ∀ j (h : j < ks.length), w.cell? ⟨g, j, none⟩ = some (.int .i64 ks[j]))
theorem TagRow.ints {w : World} {v : Value} {ks : List Int} (h : TagRow w v ks) : IntsAt w v ks := by
  obtain ⟨a, cap, hv, h1, h2, h3⟩ := h
  refine ⟨a, cap, hv, h1, h2, fun h0 => ?_⟩
  obtain ⟨g, cs, ha, _, hc⟩ := h3 h0
  exact ⟨g, 0, ha, fun j hj => by rw [Nat.zero_add]; exact hc j hj⟩
theorem TagRow.of {w w' : World} (h : ∀ (g : Nat) (cs : Array Value), w.heap[g]? = some (Obj.cells cs 3 (0, 0)) → w'.heap[g]? = w.heap[g]?) {v : Value} {ks : List Int} (ht : TagRow w v ks) : TagRow w' v ks := by
  obtain ⟨a, cap, hv, h1, h2, h3⟩ := ht
  refine ⟨a, cap, hv, h1, h2, fun h0 => ?_⟩
  obtain ⟨g, cs, ha, hg, hc⟩ := h3 h0
  have e := h g cs hg
  refine ⟨g, cs, ha, by rw [e]; exact hg, fun j hj => ?_⟩
  rw [World.cell?_of_block (a := ⟨g, j, none⟩) e]; exact hc j hj
theorem TagRow.keep {w w' : World} (hb : Below w.heap.size w w') {v : Value} {ks : List Int} (ht : TagRow w v ks) : TagRow w' v ks :=
  ht.of (fun g _ hg => hb.block g (Array.getElem?_eq_some_iff.1 hg).1)
theorem row_own_tag {w : World} {base : Nat} {e : TypeId} {size : Nat} {v : Value} {n : Nat} {xs : List Value} (h : w.ownsRow base e size v n xs) {k : Nat} (hk : v.ownBlock = some k) : ∃ cs, w.heap[k]? = some (.cells cs e (0, 0)) := by
  rcases h.2 with ⟨rfl, _⟩ | ⟨g, cap, cur, rfl, _, hg, _⟩
  · simp [Value.ownBlock] at hk
  · simp [Value.ownBlock] at hk
    subst hk
    exact ⟨cur, hg⟩
theorem TagRow.grown {w w' : World} {base : Nat} {vo : Value} {n : Nat} {xs : List Value} (hrow : w.ownsRow base 26 1 vo n xs) (hg : w.grownBy w' vo.ownBlock) {v : Value} {ks : List Int} (ht : TagRow w v ks) : TagRow w' v ks :=
  ht.of (fun g cs hgc => hg.block g (Array.getElem?_eq_some_iff.1 hgc).1 (fun e => by
    obtain ⟨cs', h'⟩ := row_own_tag hrow e.symm
    rw [hgc] at h'
    simp at h'))
theorem tag_of_row {w : World} {base : Nat} {v : Value} {ks : List Int} (h : w.ownsRow base 3 1 v ks.length (ks.map (Value.int .i64))) : TagRow w v ks := by
  rcases h.2 with ⟨rfl, h0⟩ | ⟨g, cap, cur, rfl, _, hg, hnc, hcm, hcs, htake⟩
  · exact ⟨none, 0, by rw [h0], by omega, by unfold maxLen; omega, fun h => by omega⟩
  · exact ⟨_, cap, rfl, hnc, hcm, fun _ => ⟨g, cur, rfl, hg, fun j hj => by rw [h.cellAt j (by omega)]; simp [hj]⟩⟩
/-- The rows us are those. -/
def RowsTag (w : World) (us : List Value) (rows : List (List Int)) : Prop := us.length = rows.length ∧ ∀ (j : Nat) u ks, us[j]? = some u → rows[j]? = some ks → TagRow w u ks
theorem RowsTag.map {w w' : World} {us : List Value} {rows : List (List Int)} (h : RowsTag w us rows) (hm : ∀ v ks, TagRow w v ks → TagRow w' v ks) : RowsTag w' us rows :=
  ⟨h.1, fun j u ks h1 h2 => hm _ _ (h.2 j u ks h1 h2)⟩
theorem RowsTag.snoc {w : World} {us : List Value} {rows : List (List Int)} (h : RowsTag w us rows) {u : Value} {ks : List Int} (ht : TagRow w u ks) : RowsTag w (us ++ [u]) (rows ++ [ks]) := by
  refine ⟨by simp [h.1], fun j u' ks' h1 h2 => ?_⟩
  rcases snoc_cases h1 with ⟨h1, _⟩ | ⟨hj, rfl⟩
  · rcases snoc_cases h2 with ⟨h2, _⟩ | ⟨hj2, _⟩
    · exact h.2 j u' ks' h1 h2
    · have := (List.getElem?_eq_some_iff.1 h1).1; have := h.1; omega
  · rcases snoc_cases h2 with ⟨h2, _⟩ | ⟨_, rfl⟩
    · have := (List.getElem?_eq_some_iff.1 h2).1; have := h.1; omega
    · exact ht
def RowsAt (w : World) (v : Value) (rows : List (List Int)) : Prop :=
  ∃ a cap, v = .slice a rows.length cap ∧ rows.length ≤ cap ∧ cap ≤ maxLen ∧
    (0 < rows.length → ∃ b, a = some ⟨b, 0, none⟩ ∧ ∀ j (h : j < rows.length), ∃ u, w.cell? ⟨b, j, none⟩ = some u ∧ TagRow w u rows[j])
theorem rows_at {w : World} {base : Nat} {v : Value} {us : List Value} {rows : List (List Int)} (h : w.ownsRow base 26 1 v us.length us) (hr : RowsTag w us rows) : RowsAt w v rows := by
  have hl := hr.1
  rcases h.2 with ⟨rfl, h0⟩ | ⟨g, cap, cur, rfl, _, hg, hnc, hcm, hcs, htake⟩
  · exact ⟨none, 0, by rw [← hl, h0], by omega, by unfold maxLen; omega, fun h => by omega⟩
  · refine ⟨_, cap, by rw [hl], by omega, hcm, fun _ => ⟨g, rfl, fun j hj => ⟨us[j]'(by omega), ?_, ?_⟩⟩⟩
    · rw [h.cellAt j (by omega), List.getElem?_eq_getElem (by omega)]
    · exact hr.2 j _ _ (List.getElem?_eq_getElem (by omega)) (List.getElem?_eq_getElem hj)

theorem triesTo_len (n set b : Nat) : (triesTo n set b).length ≤ b := by
  induction b with
  | zero => simp [triesTo]
  | succ b ih => simp only [triesTo, List.length_append]; split <;> simp <;> omega
theorem triesOf_len (n s : Nat) : (triesOf n s).length ≤ s * (n + 1) := by
  induction s with
  | zero => simp [triesOf]
  | succ s ih =>
    have := triesTo_len n s (n + 1)
    simp only [triesOf, List.length_append, Nat.succ_mul]; omega
theorem pow_le (n : Nat) (hn : n ≤ 12) : 2 ^ n ≤ 4096 := Nat.pow_le_pow_right (by omega) hn
theorem wrap_pow (n : Nat) (hn : n ≤ 12) : wrap64 (2 ^ n) = ((2 ^ n : Nat) : Int) := by
  have : n = 0 ∨ n = 1 ∨ n = 2 ∨ n = 3 ∨ n = 4 ∨ n = 5 ∨ n = 6 ∨ n = 7 ∨ n = 8 ∨ n = 9 ∨ n = 10 ∨ n = 11 ∨ n = 12 := by omega
  rcases this with rfl | rfl | rfl | rfl | rfl | rfl | rfl | rfl | rfl | rfl | rfl | rfl | rfl <;> (unfold wrap64; decide)
theorem Tryz.info26 : (Tryz.prog.info? 26).map (fun i => (i.zero, i.size, i.bytes)) = some (some (.slice none 0 0), 1, 24) := by kernel_rfl

/-- The first i values of a row. -/
def rowTo (set big : Nat) : Nat → List Int
  | 0 => []
  | i + 1 => rowTo set big i ++ [tryAt set big i]
theorem rowTo_eq (set big i : Nat) : rowTo set big i = tryRow i set big := by
  induction i with
  | zero => rfl
  | succ i ih => simp only [rowTo, ih, tryRow, List.range_succ, List.map_append, List.map_cons, List.map_nil]
theorem rowTo_len (set big i : Nat) : (rowTo set big i).length = i := by rw [rowTo_eq, tryRow_len]
end Go.Proofs.YtdbepifdmcjjpaaGreat

/- The walk of the specification's l1Tries. -/
namespace Go.Proofs.YtdbepifdmcjjpaaGreat
open Go.ChangeShapes Go.WideShapes Go.ChangeAt Go.RowKit

set_option maxRecDepth 10000 in
set_option maxHeartbeats 4000000 in
theorem l1Tries_any (n : Nat) (hn : n ≤ 12) (w : World) :
    Calls Tryz.prog 155 #[.int .i64 n] w fun e w' => ∃ v, e = .returned v ∧ RowsAt w' v (tries n) ∧ Below w.heap.size w w' := by
  obtain ⟨i3, hi3, hz3, hs3, hb3⟩ := info_parts Tryz.info3
  obtain ⟨i35, hi35, hz35, hs35, hb35⟩ := info_parts Tryz.info26
  obtain ⟨N, hN⟩ : ∃ N : Nat, N = 2 ^ n := ⟨_, rfl⟩
  have hNle : N ≤ 4096 := by rw [hN]; exact pow_le n hn
  have HWN : Hid (wrap64 (2 ^ n) = (N : Int)) := by show _ = _; rw [hN]; exact wrap_pow n hn
  have HTR : Hid (tries n = triesOf n N) := by show _ = _; rw [hN]; rfl
  clear hN
  have hst := World.ownsRow_lit (base := w.heap.size) (e := 26) (size := 1) w #[] 0 (Nat.le_refl _) (by unfold maxLen; omega) rfl
  have HST := hide hst
  clear hst
  go_enter Tryz.func155, Tryz.ntmps155
  go_wp2_with fail
  go_loopw [3, 4] (fun o i wr => ∃ (set : Nat) (us : List Value) (rows : List (List Int)), set ≤ N ∧ i = .int .i64 set ∧ wr.ownsRow w.heap.size 26 1 o us.length us ∧ Hid (rows = triesOf n set) ∧ Hid (RowsTag wr us rows) ∧ us.length ≤ set * (n + 1) ∧ Below w.heap.size w wr) (fun _ i _ => N - (intOf i).toNat)
  case atStart => exact ⟨0, [], [], by omega, rfl, HST.out, rfl, ⟨rfl, fun j u ks h => by simp at h⟩, by simp, bel_alloc (Below.refl _ _) _⟩
  case round =>
    obtain ⟨set, us, rows, hset, rfl, hown, HR, HT, hul, hbel⟩ := hrel
    obtain ⟨oa, oc, rfl⟩ := row_form hown
    by_cases hlt : set < N
    · have hlt' : (set : Int) < wrap64 (2 ^ n) := by rw [HWN.out]; omega
      have hul2 : us.length ≤ 53248 := by
        have : set * (n + 1) ≤ 4096 * 13 := Nat.mul_le_mul (by omega) (by omega)
        omega
      go_wp2_with fail
      go_loopw [3, 5] (fun o i wr2 => ∃ (big : Nat) (us2 : List Value) (rows2 : List (List Int)), big ≤ n + 1 ∧ i = .int .i64 big ∧ wr2.ownsRow w.heap.size 26 1 o us2.length us2 ∧ Hid (rows2 = triesOf n set ++ triesTo n set big) ∧ Hid (RowsTag wr2 us2 rows2) ∧ us2.length ≤ set * (n + 1) + big ∧ us2.length ≤ 53248 + big ∧ Below w.heap.size w wr2) (fun _ i _ => n + 1 - (intOf i).toNat)
      case atStart => exact ⟨0, us, rows, by omega, rfl, hown, by show _ = _; rw [HR.out]; simp [triesTo], HT, by omega, by omega, hbel⟩
      case round =>
        clear hown HR HT hul hbel hul2
        rename World => W2
        obtain ⟨big, us, rows, hbig, rfl, hown, HR, HT, hul, hul2, hbel⟩ := hrel
        obtain ⟨oa, oc, rfl⟩ := row_form hown
        by_cases hlb : big < n + 1
        · have hlb' : (big : Int) ≤ n := by omega
          have HOWN := hide hown
          have hst3 := World.ownsRow_lit (base := W2.heap.size) (e := 3) (size := 1) W2 #[] 0 (Nat.le_refl _) (by unfold maxLen; omega) rfl
          have HST3 := hide hst3
          clear hst3 hown
          go_wp2_with fail
          go_loopw [6, 7] (fun o i wr3 => ∃ (k : Nat), k ≤ n ∧ i = .int .i64 k ∧ wr3.ownsRow W2.heap.size 3 1 o k ((rowTo set big k).map (Value.int .i64)) ∧ Below W2.heap.size W2 wr3) (fun _ i _ => n - (intOf i).toNat)
          case atStart => exact ⟨0, by omega, rfl, HST3.out, bel_alloc (Below.refl _ _) _⟩
          case round =>
            obtain ⟨k, hk, rfl, hown3, hbel3⟩ := hrel
            obtain ⟨ra, rc, rfl⟩ := row_form hown3
            have hl3 : (rowTo set big k).length = k := rowTo_len set big k
            by_cases hlk : k < n
            · have hlk' : (k : Int) < n := by omega
              obtain ⟨x, hx⟩ : ∃ x, tryAt set big k = x := ⟨_, rfl⟩
              have HNX : Hid ((rowTo set big (k + 1)).map (Value.int .i64) = (rowTo set big k).map (Value.int .i64) ++ [.int .i64 x]) := by show _ = _; simp [rowTo, hx]
              have hbit := bit_of set k
              by_cases q1 : inSet set k = true
              · rw [q1] at hbit
                simp only [tryAt, q1, if_true] at hx hbit
                subst hx
                go_wp2_with (at_builtin; refine wpList_append_own _ rfl _ _ 26 rfl W2.heap.size 3 i3 (.int .i64 0) 1 8 Tryz.underlying26 hi3 hz3 hs3 hb3 rfl (by decide) _ _ _ rfl (hown3.alloc _) ⟨_, 0, none⟩ 1 1 [.int .i64 0] rfl rfl ?c1 ?c2 ?c3 ?c4 ?c5 ?_)
                case c1 => exact cell_one_new _ _ _
                case c2 => first | rfl | (intro u hu; simp at hu; subst hu; rfl)
                case c3 => unfold maxLen; omega
                case c4 => omega
                case c5 => have := hbel3.size; simp; omega
                intro v4 w4 hown4 hgrow4 _
                have hbel4 : Below W2.heap.size W2 w4 := (bel_alloc hbel3 _).grown hgrow4 (bel_alloc hbel3 _).size (fun j hj => (hown3.lt j hj).1)
                have HOWN4 : Hid (w4.ownsRow W2.heap.size 3 1 v4 (k + 1) ((rowTo set big (k + 1)).map (Value.int .i64))) := by
                  show World.ownsRow _ _ _ _ _ _ _
                  rw [HNX.out]; exact hown4
                obtain ⟨ra4, rc4, rfl⟩ := row_form hown4
                clear hown4 hgrow4 hown3
                go_wp2_with fail
                go_roundw
                case rel => exact ⟨k + 1, by omega, by go_num, HOWN4.out, hbel4⟩
                case measure => simp [intOf]; omega
              · have q1' : inSet set k = false := by simpa using q1
                rw [q1'] at hbit
                simp only [tryAt, q1', Bool.false_eq_true, if_false] at hx hbit
                by_cases q2 : k = big
                · rw [if_pos q2] at hx
                  subst hx
                  have e2 : ((k : Int) == (big : Int)) = true := by simp [q2]
                  clear q2
                  go_wp2_with (at_builtin; refine wpList_append_own _ rfl _ _ 26 rfl W2.heap.size 3 i3 (.int .i64 0) 1 8 Tryz.underlying26 hi3 hz3 hs3 hb3 rfl (by decide) _ _ _ rfl (hown3.alloc _) ⟨_, 0, none⟩ 1 1 [.int .i64 1000] rfl rfl ?c1 ?c2 ?c3 ?c4 ?c5 ?_)
                  case c1 => exact cell_one_new _ _ _
                  case c2 => first | rfl | (intro u hu; simp at hu; subst hu; rfl)
                  case c3 => unfold maxLen; omega
                  case c4 => omega
                  case c5 => have := hbel3.size; simp; omega
                  intro v4 w4 hown4 hgrow4 _
                  have hbel4 : Below W2.heap.size W2 w4 := (bel_alloc hbel3 _).grown hgrow4 (bel_alloc hbel3 _).size (fun j hj => (hown3.lt j hj).1)
                  have HOWN4 : Hid (w4.ownsRow W2.heap.size 3 1 v4 (k + 1) ((rowTo set big (k + 1)).map (Value.int .i64))) := by
                    show World.ownsRow _ _ _ _ _ _ _
                    rw [HNX.out]; exact hown4
                  obtain ⟨ra4, rc4, rfl⟩ := row_form hown4
                  clear hown4 hgrow4 hown3
                  go_wp2_with fail
                  go_roundw
                  case rel => exact ⟨k + 1, by omega, by go_num, HOWN4.out, hbel4⟩
                  case measure => simp [intOf]; omega
                · rw [if_neg q2] at hx
                  subst hx
                  have e2 : ((k : Int) == (big : Int)) = false := by rw [beq_eq_false_iff_ne]; omega
                  clear q2
                  go_wp2_with (at_builtin; refine wpList_append_own _ rfl _ _ 26 rfl W2.heap.size 3 i3 (.int .i64 0) 1 8 Tryz.underlying26 hi3 hz3 hs3 hb3 rfl (by decide) _ _ _ rfl (hown3.alloc _) ⟨_, 0, none⟩ 1 1 [.int .i64 1] rfl rfl ?c1 ?c2 ?c3 ?c4 ?c5 ?_)
                  case c1 => exact cell_one_new _ _ _
                  case c2 => first | rfl | (intro u hu; simp at hu; subst hu; rfl)
                  case c3 => unfold maxLen; omega
                  case c4 => omega
                  case c5 => have := hbel3.size; simp; omega
                  intro v4 w4 hown4 hgrow4 _
                  have hbel4 : Below W2.heap.size W2 w4 := (bel_alloc hbel3 _).grown hgrow4 (bel_alloc hbel3 _).size (fun j hj => (hown3.lt j hj).1)
                  have HOWN4 : Hid (w4.ownsRow W2.heap.size 3 1 v4 (k + 1) ((rowTo set big (k + 1)).map (Value.int .i64))) := by
                    show World.ownsRow _ _ _ _ _ _ _
                    rw [HNX.out]; exact hown4
                  obtain ⟨ra4, rc4, rfl⟩ := row_form hown4
                  clear hown4 hgrow4 hown3
                  go_wp2_with fail
                  go_roundw
                  case rel => exact ⟨k + 1, by omega, by go_num, HOWN4.out, hbel4⟩
                  case measure => simp [intOf]; omega
            · obtain rfl : n = k := by omega
              have hrt : rowTo set big n = tryRow n set big := rowTo_eq set big n
              clear hl3
              have hbit := bit_of set big
              by_cases q1 : big = n
              · have hok : tryOk n set big = true := by simp [tryOk, q1]
                have e1 : ((big : Int) == (n : Int)) = true := by simp [q1]
                clear q1 hbit
                have HTAG : Hid (TagRow wr (.slice ra n rc) (tryRow n set big)) := tag_of_row (base := W2.heap.size) (by rw [tryRow_len, ← hrt]; exact hown3)
                clear hown3
                go_wp2_with (at_builtin; refine wpList_append_own _ rfl _ _ 191 rfl w.heap.size 26 i35 (.slice none 0 0) 1 24 Tryz.underlying191 hi35 hz35 hs35 hb35 rfl (by decide) _ _ _ rfl ((row_keep hbel3 HOWN.out).alloc _) ⟨_, 0, none⟩ 1 1 [.slice ra n rc] rfl rfl ?c1 ?c2 ?c3 ?c4 ?c5 ?_)
                case c1 => exact cell_one_new _ _ _
                case c2 => first | rfl | (intro u hu; simp at hu; subst hu; rfl)
                case c3 => unfold maxLen; omega
                case c4 => omega
                case c5 => have := hbel3.size; have := hbel.size; simp; omega
                intro v5 w5 hown5 hgrow5 _
                have hba : Below W2.heap.size W2 (wr.alloc (.cells #[.slice ra n rc] 26)) := bel_alloc hbel3 _
                have hrow5 := (row_keep hbel3 HOWN.out).alloc (.cells #[.slice ra n rc] 26)
                have hbel5 : Below w.heap.size w w5 := (bel_trans hbel hba).grown hgrow5 (bel_trans hbel hba).size (fun j hj => (HOWN.out.lt j hj).1)
                have HT5 : Hid (RowsTag w5 (us ++ [Value.slice ra n rc]) (rows ++ [tryRow n set big])) :=
                  (((HT.out.map (fun v ks h => h.keep hba)).map (fun v ks h => h.grown hrow5 hgrow5))).snoc ((HTAG.out.keep (bel_alloc (Below.refl _ _) _)).grown hrow5 hgrow5)
                have HOWN5 : Hid (w5.ownsRow w.heap.size 26 1 v5 (us ++ [Value.slice ra n rc]).length (us ++ [Value.slice ra n rc])) := by
                  show World.ownsRow _ _ _ _ _ _ _
                  simpa using hown5
                have HR5 : Hid (rows ++ [tryRow n set big] = triesOf n set ++ triesTo n set (big + 1)) := by
                  show _ = _
                  rw [HR.out, triesTo, if_pos hok]; simp
                obtain ⟨oa5, oc5, rfl⟩ := row_form hown5
                clear hown5 hgrow5 hrow5 hba HTAG HT HR HOWN
                go_wp2_with fail
                go_roundw
                case rel => exact ⟨big + 1, us ++ [Value.slice ra n rc], rows ++ [tryRow n set big], by omega, by go_num, HOWN5.out, HR5, HT5, by simp; omega, by simp; omega, hbel5⟩
                case measure => simp [intOf]; omega
              · have e1 : ((big : Int) == (n : Int)) = false := by rw [beq_eq_false_iff_ne]; omega
                by_cases q2 : inSet set big = true
                · have hok : tryOk n set big = false := by simp [tryOk, q1, q2]
                  rw [q2] at hbit
                  simp only [if_true] at hbit
                  have HR5 : Hid (rows = triesOf n set ++ triesTo n set (big + 1)) := by
                    show _ = _
                    rw [HR.out, triesTo, hok]; simp
                  have HT5 : Hid (RowsTag wr us rows) := HT.out.map (fun v ks h => h.keep hbel3)
                  have hown5 := row_keep hbel3 HOWN.out
                  have hbel5 := bel_trans hbel hbel3
                  clear HR HT HOWN hown3 q1
                  go_wp2_with fail
                  go_roundw
                  case rel => exact ⟨big + 1, us, rows, by omega, by go_num, hown5, HR5, HT5, by omega, by omega, hbel5⟩
                  case measure => simp [intOf]; omega
                · have q2' : inSet set big = false := by simpa using q2
                  have hok : tryOk n set big = true := by simp [tryOk, q2']
                  rw [q2'] at hbit
                  simp only [Bool.false_eq_true, if_false] at hbit
                  clear q1 q2
                  have HTAG : Hid (TagRow wr (.slice ra n rc) (tryRow n set big)) := tag_of_row (base := W2.heap.size) (by rw [tryRow_len, ← hrt]; exact hown3)
                  clear hown3
                  go_wp2_with (at_builtin; refine wpList_append_own _ rfl _ _ 191 rfl w.heap.size 26 i35 (.slice none 0 0) 1 24 Tryz.underlying191 hi35 hz35 hs35 hb35 rfl (by decide) _ _ _ rfl ((row_keep hbel3 HOWN.out).alloc _) ⟨_, 0, none⟩ 1 1 [.slice ra n rc] rfl rfl ?c1 ?c2 ?c3 ?c4 ?c5 ?_)
                  case c1 => exact cell_one_new _ _ _
                  case c2 => first | rfl | (intro u hu; simp at hu; subst hu; rfl)
                  case c3 => unfold maxLen; omega
                  case c4 => omega
                  case c5 => have := hbel3.size; have := hbel.size; simp; omega
                  intro v5 w5 hown5 hgrow5 _
                  have hba : Below W2.heap.size W2 (wr.alloc (.cells #[.slice ra n rc] 26)) := bel_alloc hbel3 _
                  have hrow5 := (row_keep hbel3 HOWN.out).alloc (.cells #[.slice ra n rc] 26)
                  have hbel5 : Below w.heap.size w w5 := (bel_trans hbel hba).grown hgrow5 (bel_trans hbel hba).size (fun j hj => (HOWN.out.lt j hj).1)
                  have HT5 : Hid (RowsTag w5 (us ++ [Value.slice ra n rc]) (rows ++ [tryRow n set big])) :=
                    (((HT.out.map (fun v ks h => h.keep hba)).map (fun v ks h => h.grown hrow5 hgrow5))).snoc ((HTAG.out.keep (bel_alloc (Below.refl _ _) _)).grown hrow5 hgrow5)
                  have HOWN5 : Hid (w5.ownsRow w.heap.size 26 1 v5 (us ++ [Value.slice ra n rc]).length (us ++ [Value.slice ra n rc])) := by
                    show World.ownsRow _ _ _ _ _ _ _
                    simpa using hown5
                  have HR5 : Hid (rows ++ [tryRow n set big] = triesOf n set ++ triesTo n set (big + 1)) := by
                    show _ = _
                    rw [HR.out, triesTo, if_pos hok]; simp
                  obtain ⟨oa5, oc5, rfl⟩ := row_form hown5
                  clear hown5 hgrow5 hrow5 hba HTAG HT HR HOWN
                  go_wp2_with fail
                  go_roundw
                  case rel => exact ⟨big + 1, us ++ [Value.slice ra n rc], rows ++ [tryRow n set big], by omega, by go_num, HOWN5.out, HR5, HT5, by simp; omega, by simp; omega, hbel5⟩
                  case measure => simp [intOf]; omega
        · have hbn : big = n + 1 := by omega
          have HR2 : Hid (rows = triesOf n (set + 1)) := by show _ = _; rw [HR.out, hbn]; rfl
          have hul3 : us.length ≤ (set + 1) * (n + 1) := by rw [Nat.succ_mul]; omega
          clear hul hul2 HR hbn
          go_wp2_with fail
          go_roundw
          case rel => exact ⟨set + 1, us, rows, by omega, by go_num, hown, HR2, HT, hul3, hbel⟩
          case measure => simp [intOf]; omega
    · have hlt' : wrap64 (2 ^ n) ≤ (set : Int) := by rw [HWN.out]; omega
      have hsn : set = N := by omega
      have hrows := rows_at hown HT.out
      rw [HR.out, hsn, ← HTR.out] at hrows
      have HRW := hide hrows
      clear hrows hsn HR HT hown hul
      go_wp2_with fail
      go_ret
      exact ⟨_, rfl, HRW.out, hbel⟩
end Go.Proofs.YtdbepifdmcjjpaaGreat
