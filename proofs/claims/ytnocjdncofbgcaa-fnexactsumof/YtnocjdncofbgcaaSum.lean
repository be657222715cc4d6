/- How a row of bytes lies in memory; what the copying and comparing of it answers; and that the two functions SumOf answer the same number of the bytes, whatever they are. -/
import Derived.Test.YtnocjdncofbgcaaRows
import Derived.WalkKit
import Derived.ProofKit
import Derived.WalkLawsBesides
import Derived.WalkSpells
import Derived.Deep.Draws
import Derived.Deep.RegionWith
namespace Go.Proofs.Ytnocjdncofbgcaa
open Go.ChangeShapes Go.WideShapes Go.ChangeAt Go.RowKit

theorem ret_int {k : IntKind} {a b : Int} (h : a = b) : Ending.returned (.int k a) = .returned (.int k b) := by rw [h]
theorem hide {p : Prop} (h : p) : Hid p := h

/-- A row of bytes, and that they are bytes. -/
def BytesAt (w : World) (v : Value) (ks : List Int) : Prop :=
  ∃ a cap, v = .slice a ks.length cap ∧ ks.length ≤ cap ∧ cap ≤ maxLen ∧
    (0 < ks.length → ∃ b off, a = some ⟨b, off, none⟩ ∧ ∀ j (h : j < ks.length), w.cell? ⟨b, off + j, none⟩ = some (.int .u8 ks[j]))
def Small (ks : List Int) : Prop := ∀ n ∈ ks, 0 ≤ n ∧ n ≤ 255

theorem lt_cell {w : World} {b o : Nat} {v : Value} (h : w.cell? ⟨b, o, none⟩ = some v) : b < w.heap.size := World.block_lt_of_cell? w ⟨b, o, none⟩ h
theorem keep_cell {w w' : World} (hb : Below w.heap.size w w') {b o : Nat} {v : Value} (h : w.cell? ⟨b, o, none⟩ = some v) : w'.cell? ⟨b, o, none⟩ = some v := by
  rw [hb.cell (p := ⟨b, o, none⟩) (lt_cell h)]; exact h
theorem BytesAt.keep {w w' : World} (hb : Below w.heap.size w w') {v : Value} {ks : List Int} (h : BytesAt w v ks) : BytesAt w' v ks := by
  obtain ⟨a, cap, hv, h1, h2, h3⟩ := h
  refine ⟨a, cap, hv, h1, h2, fun h0 => ?_⟩
  obtain ⟨b, off, ha, hc⟩ := h3 h0
  exact ⟨b, off, ha, fun j h => keep_cell hb (hc j h)⟩
theorem bel_trans {w w1 w2 : World} (h : Below w.heap.size w w1) (h2 : Below w1.heap.size w1 w2) : Below w.heap.size w w2 := h.trans (h2.mono h.size)

theorem Try.info5 : (Try.prog.info? 5).map (fun i => (i.zero, i.size, i.bytes)) = some (some (.int .u8 0), 1, 1) := by kernel_rfl

theorem ownsRow_bytes {w : World} {base g n cap : Nat} {e : TypeId} {xs : List Value} {ks : List Int} (h : w.ownsRow base e 1 (.slice (some ⟨g, 0, none⟩) n cap) n xs) (hn : n = ks.length) (hx : ∀ j (h : j < ks.length), xs[j]? = some (.int .u8 ks[j])) :
    BytesAt w (.slice (some ⟨g, 0, none⟩) n cap) ks := by
  subst hn
  rcases h.2 with ⟨h', _⟩ | ⟨g', cap', cur, h', _, hg, hnc, hcm, hcs, htake⟩
  · simp at h'
  · simp only [Value.slice.injEq, Option.some.injEq, Addr.mk.injEq, and_true, true_and] at h'
    obtain ⟨rfl, rfl⟩ := h'
    exact ⟨_, _, rfl, hnc, hcm, fun _ => ⟨g, 0, rfl, fun j hj => by rw [Nat.zero_add, h.cellAt j (by omega)]; exact hx j hj⟩⟩

set_option maxHeartbeats 1000000 in
theorem toByteS_any (v : Value) (ks : List Int) (w : World) (hk : BytesAt w v ks) (hl : ks.length ≤ 1048576) :
    Calls Try.prog 5 #[v] w fun e w' => ∃ g, e = .returned (.slice (some ⟨g, 0, none⟩) ks.length ks.length) ∧ BytesAt w' (.slice (some ⟨g, 0, none⟩) ks.length ks.length) ks ∧ w.heap.size ≤ g ∧ Below w.heap.size w w' := by
  obtain ⟨i0, hi, hz0, hz1, hz2⟩ := info_parts Try.info5
  obtain ⟨a, cap, rfl, hlc, hcm, hc⟩ := hk
  have HC : Hid (0 < ks.length → ∃ b off, a = some ⟨b, off, none⟩ ∧ ∀ j (h : j < ks.length), w.cell? ⟨b, off + j, none⟩ = some (.int .u8 ks[j])) := hc
  clear hc
  go_enter Try.func5, Try.ntmps5
  go_wp2_with (at_make; refine wpList_make_full _ rfl _ _ 22 rfl w.heap.size 5 i0 (.int .u8 0) 1 Try.underlying22 hi hz0 hz1 .i64 .i64 _ _ ks.length rfl rfl rfl rfl (by rw [hz2]; omega) (by unfold maxLen; omega) (Nat.le_refl _) ?_; intro w1 hown hgrow)
  go_loopw [4] (fun i wr => ∃ (k : Nat) (xs : List Value), k ≤ ks.length ∧ i = .int .i64 k ∧ wr.ownsRow w.heap.size 5 1 (.slice (some ⟨w.heap.size, 0, none⟩) ks.length ks.length) ks.length xs ∧ Hid (∀ j (h : j < ks.length), j < k → xs[j]? = some (.int .u8 ks[j])) ∧ Below w.heap.size w wr) (fun i _ => ks.length - (intOf i).toNat)
  case atStart => exact ⟨0, _, by omega, rfl, hown, fun j _ h => by omega, (Below.refl _ _).grown hgrow (Nat.le_refl _) (fun k hk => by cases hk)⟩
  case round =>
    obtain ⟨k, xs, hk, rfl, hownr, HX, hbel⟩ := hrel
    by_cases hlt : k < ks.length
    · obtain ⟨b, off, ha, hc⟩ := HC.out (by omega)
      subst ha
      have c1 := hc k hlt
      have c1' := hbel.cell (p := ⟨b, off + k, none⟩) (lt_cell c1)
      rw [c1] at c1'
      have hst := hownr.stored k (.int .u8 ks[k])
      have hfz := hownr.frozenAt k
      have hce := hownr.cellAt k (by omega)
      have hxl := hownr.1
      obtain ⟨u, hu⟩ : ∃ u, xs[k]? = some u := ⟨xs[k]'(by omega), by simp⟩
      rw [hu] at hce
      have HX2 : Hid (∀ j (h : j < ks.length), j < k + 1 → (xs.set k (.int .u8 ks[k]))[j]? = some (.int .u8 ks[j])) := by
        intro j hj hjk
        rw [List.getElem?_set]
        by_cases e : k = j
        · subst e; rw [if_pos rfl, if_pos (by omega)]
        · rw [if_neg e]; exact HX.out j hj (by omega)
      clear hc c1 hu hown hgrow
      generalize ks[k] = q at *
      go_wp2_with fail
      go_roundw
      case rel => exact ⟨k + 1, _, by omega, by go_num, hst.1, HX2, hbel.setCell (Nat.le_refl _) _⟩
      case measure => simp [intOf]; omega
    · have hints := ownsRow_bytes hownr rfl (fun j hj => HX.out j hj (by omega))
      clear hown hgrow hownr
      go_wp2_with fail
      go_ret
      exact ⟨_, rfl, hints, Nat.le_refl _, hbel⟩

set_option maxHeartbeats 1000000 in
theorem eqByteS_any (v1 v2 : Value) (ks : List Int) (w : World) (h1 : BytesAt w v1 ks) (h2 : BytesAt w v2 ks) :
    Calls Try.prog 7 #[v1, v2] w fun e w' => e = .returned (.bool true) ∧ ∃ n, w' = w.drewN n := by
  obtain ⟨a1, cap1, rfl, hl1, hm1, hc1⟩ := h1
  obtain ⟨a2, cap2, rfl, hl2, hm2, hc2⟩ := h2
  unfold maxLen at hm1 hm2
  have H1 := hide hc1
  have H2 := hide hc2
  clear hc1 hc2
  go_enter Try.func7, Try.ntmps7
  go_wp2_with fail
  go_loopw [5] (fun i wr => ∃ (k : Nat) (n : Nat), k ≤ ks.length ∧ i = .int .i64 k ∧ wr = w.drewN n) (fun i _ => ks.length - (intOf i).toNat)
  case atStart => exact ⟨0, 0, by omega, rfl, rfl⟩
  case round =>
    obtain ⟨k, n, hk, rfl, rfl⟩ := hrel
    by_cases hlt : k < ks.length
    · obtain ⟨b1, o1, rfl, c1⟩ := H1.out (by omega)
      obtain ⟨b2, o2, rfl, c2⟩ := H2.out (by omega)
      have d1 := c1 k hlt
      have d2 := c2 k hlt
      have hlt' : (k : Int) < ks.length := by omega
      clear c1 c2 H1 H2
      generalize ks[k] = q at *
      go_wp2_with fail
      go_region
      go_wp2_with fail
      go_roundw
      case rel => exact ⟨k + 1, _, by omega, by go_num, rfl⟩
      case measure => simp [intOf]; omega
    · go_wp2_with fail
      go_ret
      exact ⟨rfl, n, rfl⟩

/-- One byte more. -/
def stepS (s b : Int) : Int := (s * 257 + b + 1) % 1000003
/-- The sum of the first k bytes. -/
def sumTo (ks : List Int) (k : Nat) : Int := (ks.take k).foldl stepS 0

theorem stepS_bd {s b : Int} : 0 ≤ stepS s b ∧ stepS s b < 1000003 := by
  unfold stepS
  omega
theorem sumTo_succ (ks : List Int) (k : Nat) (h : k < ks.length) : sumTo ks (k + 1) = stepS (sumTo ks k) ks[k] := by
  unfold sumTo
  rw [List.take_succ_eq_append_getElem h, List.foldl_append]; rfl
theorem sumTo_bd {ks : List Int} : ∀ k, k ≤ ks.length → 0 ≤ sumTo ks k ∧ sumTo ks k < 1000003
  | 0, _ => by simp [sumTo]
  | k + 1, h => by
    rw [sumTo_succ ks k h]
    exact stepS_bd

set_option maxHeartbeats 1000000 in
theorem specSum_any (v : Value) (ks : List Int) (w : World) (hk : BytesAt w v ks) (hs : Small ks) :
    Calls Try.prog 4 #[v] w fun e w' => e = .returned (.int .i64 (sumTo ks ks.length)) ∧ w' = w := by
  obtain ⟨a, cap, rfl, hlc, hcm, hc⟩ := hk
  unfold maxLen at hcm
  have HC := hide hc
  have HS := hide hs
  clear hc hs
  go_enter Try.func4, Try.ntmps4
  go_wp2_with fail
  go_loop [3, 4] (fun s i => ∃ k : Nat, k ≤ ks.length ∧ i = .int .i64 k ∧ s = .int .i64 (sumTo ks k)) (fun _ i => ks.length - (intOf i).toNat)
  case atStart => exact ⟨0, by omega, rfl, rfl⟩
  case round =>
    obtain ⟨k, hk, rfl, rfl⟩ := hrel
    by_cases hlt : k < ks.length
    · obtain ⟨b, off, rfl, c1⟩ := HC.out (by omega)
      have d1 := c1 k hlt
      have HN := hide (sumTo_succ ks k hlt)
      obtain ⟨s0, s1⟩ := sumTo_bd (ks := ks) k (by omega)
      obtain ⟨q0, q1⟩ := HS.out _ (List.getElem_mem hlt)
      have hlt' : (k : Int) < ks.length := by omega
      clear c1 HC HS
      generalize ks[k] = q at *
      obtain ⟨s, hsd⟩ : ∃ s, sumTo ks k = s := ⟨_, rfl⟩
      rw [hsd] at s0 s1 HN ⊢
      clear hsd
      go_wp2_with fail
      go_round
      case rel => exact ⟨k + 1, by omega, by go_num, by rw [HN.out]; rfl⟩
      case measure => simp [intOf]; omega
    · have hkk : k = ks.length := by omega
      subst hkk
      go_wp2_with fail
      go_ret
      exact ⟨rfl, rfl⟩

set_option maxHeartbeats 1000000 in
theorem implSum_any (v : Value) (ks : List Int) (w : World) (hk : BytesAt w v ks) (hs : Small ks) :
    Calls Try.prog 6 #[v] w fun e w' => e = .returned (.int .i64 (sumTo ks ks.length)) ∧ w' = w := by
  obtain ⟨a, cap, rfl, hlc, hcm, hc⟩ := hk
  unfold maxLen at hcm
  have HC := hide hc
  have HS := hide hs
  clear hc hs
  go_enter Try.func6, Try.ntmps6
  go_wp2_with fail
  go_loop [3, 8] (fun s i => ∃ k : Nat, k ≤ ks.length ∧ i = .int .i64 k ∧ s = .int .i64 (sumTo ks k)) (fun _ i => ks.length - (intOf i).toNat)
  case atStart => exact ⟨0, by omega, rfl, rfl⟩
  case round =>
    obtain ⟨k, hk, rfl, rfl⟩ := hrel
    by_cases hlt : k < ks.length
    · obtain ⟨b, off, rfl, c1⟩ := HC.out (by omega)
      have d1 := c1 k hlt
      have HN := hide (sumTo_succ ks k hlt)
      obtain ⟨s0, s1⟩ := sumTo_bd (ks := ks) k (Nat.le_of_lt hlt)
      obtain ⟨q0, q1⟩ := HS.out _ (List.getElem_mem hlt)
      have hlt' : (k : Int) < ks.length := by omega
      clear c1 HC HS
      generalize ks[k] = q at *
      obtain ⟨s, hsd⟩ : ∃ s, sumTo ks k = s := ⟨_, rfl⟩
      rw [hsd] at s0 s1 HN ⊢
      clear hsd
      go_wp2_with fail
      go_round
      case rel => exact ⟨k + 1, by omega, by go_num, by rw [HN.out]; rfl⟩
      case measure => simp [intOf]; omega
    · have hkk : k = ks.length := by omega
      subst hkk
      go_wp2_with fail
      go_ret
      exact ⟨rfl, rfl⟩
end Go.Proofs.Ytnocjdncofbgcaa
