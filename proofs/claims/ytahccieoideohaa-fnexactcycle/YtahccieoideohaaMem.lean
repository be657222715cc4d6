/- How constraints and numbers lie in memory: a row of triples, a row of numbers; that what was there stays so where nothing below is written; and what the copying, counting and comparing of them answers. -/
import Derived.Test.YtahccieoideohaaRows
import Derived.WalkKit
import Derived.ProofKit
import Derived.WalkLawsBesides
import Derived.WalkSpells
import Derived.Deep.Draws
import Derived.Deep.RegionWith
namespace Go.Proofs.Ytahccieoideohaa
open Go.ChangeShapes Go.WideShapes Go.ChangeAt Go.RowKit

theorem ret_bool {a b : Bool} (h : a = b) : Ending.returned (.bool a) = .returned (.bool b) := by rw [h]
theorem ret_int {k : IntKind} {a b : Int} (h : a = b) : Ending.returned (.int k a) = .returned (.int k b) := by rw [h]
theorem hide {p : Prop} (h : p) : Hid p := h

/-- A constraint: a's number plus n is at most b's. -/
structure Cn where
  a : Int
  n : Int
  b : Int
instance : Inhabited Cn := ⟨⟨0, 0, 0⟩⟩

/-- A constraint as a value. -/
def Cn.val (c : Cn) : Value := .agg #[.int .i64 c.a, .int .i64 c.n, .int .i64 c.b]

def IntsAt (w : World) (v : Value) (ks : List Int) : Prop :=
  ∃ a cap, v = .slice a ks.length cap ∧ ks.length ≤ cap ∧ cap ≤ maxLen ∧
    (0 < ks.length → ∃ b off, a = some ⟨b, off, none⟩ ∧ ∀ j (h : j < ks.length), w.cell? ⟨b, off + j, none⟩ = some (.int .i64 ks[j]))
def ConAt (w : World) (b o : Nat) (c : Cn) : Prop :=
  w.cell? ⟨b, o, none⟩ = some (.int .i64 c.a) ∧ w.cell? ⟨b, o + 1, none⟩ = some (.int .i64 c.n) ∧ w.cell? ⟨b, o + 2, none⟩ = some (.int .i64 c.b)
def ConsAt (w : World) (v : Value) (cs : List Cn) : Prop :=
  ∃ a cap, v = .slice a cs.length cap ∧ cs.length ≤ cap ∧ cap ≤ maxLen ∧
    (0 < cs.length → ∃ b off, a = some ⟨b, off, none⟩ ∧ ∀ i (h : i < cs.length), ConAt w b (off + i * 3) cs[i])

theorem lt_cell {w : World} {b o : Nat} {v : Value} (h : w.cell? ⟨b, o, none⟩ = some v) : b < w.heap.size := World.block_lt_of_cell? w ⟨b, o, none⟩ h
theorem keep_cell {w w' : World} (hb : Below w.heap.size w w') {b o : Nat} {v : Value} (h : w.cell? ⟨b, o, none⟩ = some v) : w'.cell? ⟨b, o, none⟩ = some v := by
  rw [hb.cell (p := ⟨b, o, none⟩) (lt_cell h)]; exact h
theorem IntsAt.keep {w w' : World} (hb : Below w.heap.size w w') {v : Value} {ks : List Int} (h : IntsAt w v ks) : IntsAt w' v ks := by
  obtain ⟨a, cap, hv, h1, h2, h3⟩ := h
  refine ⟨a, cap, hv, h1, h2, fun h0 => ?_⟩
  obtain ⟨b, off, ha, hc⟩ := h3 h0
  exact ⟨b, off, ha, fun j h => keep_cell hb (hc j h)⟩
theorem ConAt.keep {w w' : World} (hb : Below w.heap.size w w') {b o : Nat} {c : Cn} (h : ConAt w b o c) : ConAt w' b o c :=
  ⟨keep_cell hb h.1, keep_cell hb h.2.1, keep_cell hb h.2.2⟩
theorem ConsAt.keep {w w' : World} (hb : Below w.heap.size w w') {v : Value} {cs : List Cn} (h : ConsAt w v cs) : ConsAt w' v cs := by
  obtain ⟨a, cap, hv, h1, h2, h3⟩ := h
  refine ⟨a, cap, hv, h1, h2, fun h0 => ?_⟩
  obtain ⟨b, off, ha, hc⟩ := h3 h0
  exact ⟨b, off, ha, fun i h => (hc i h).keep hb⟩
theorem bel_alloc {a w : World} (h : Below a.heap.size a w) (o : Obj) : Below a.heap.size a (w.alloc o) := h.alloc h.size o
theorem grown_of {w w' : World} (hb : Below w.heap.size w w') : w.grownBy w' none := ⟨hb.os, hb.tape, hb.output, hb.size, fun k hk _ => hb.block k hk⟩
theorem row_keep {w w' : World} (hb : Below w.heap.size w w') {base : Nat} {e : TypeId} {size : Nat} {v : Value} {n : Nat} {xs : List Value} (h : w.ownsRow base e size v n xs) : w'.ownsRow base e size v n xs :=
  h.kept (grown_of hb) (by cases hv : v.ownBlock <;> simp)
theorem bcell {W w1 : World} (hb : Below W.heap.size W w1) : (∀ b o, b < W.heap.size → w1.cell? ⟨b, o, none⟩ = W.cell? ⟨b, o, none⟩) ∧ (∀ b o, b < W.heap.size → w1.frozen? ⟨b, o, none⟩ = W.frozen? ⟨b, o, none⟩) :=
  ⟨fun b o h => hb.cell (p := ⟨b, o, none⟩) h, fun b o h => hb.frozen (p := ⟨b, o, none⟩) h⟩
theorem bel_trans {w w1 w2 : World} (h : Below w.heap.size w w1) (h2 : Below w1.heap.size w1 w2) : Below w.heap.size w w2 := h.trans (h2.mono h.size)

/-- What is left when n is taken away: -1 where it is less than nothing. -/
def leftOf (left : Int) (n : Nat) : Int := if left < n then -1 else left - n

set_option maxHeartbeats 400000 in
theorem szConsS_any (v : Value) (cs : List Cn) (left : Int) (w : World) (hk : ConsAt w v cs) (h0 : 0 ≤ left) (h1 : left ≤ 1048576) :
    Calls Try.prog 9 #[v, .int .i64 left] w fun e w' => e = .returned (.int .i64 (leftOf left cs.length)) ∧ w' = w := by
  obtain ⟨a, cap, rfl, hlc, hcm, _⟩ := hk
  unfold maxLen at hcm
  by_cases h : left < cs.length
  · go_enter Try.func9, Try.ntmps9
    go_wp2
    go_ret
    exact ⟨ret_int (by rw [leftOf, if_pos h]), rfl⟩
  · go_enter Try.func9, Try.ntmps9
    go_wp2
    go_ret
    exact ⟨ret_int (by rw [leftOf, if_neg (by omega)]), rfl⟩

theorem Try.info3 : (Try.prog.info? 3).map (fun i => (i.zero, i.size, i.bytes)) = some (some (.int .i64 0), 1, 8) := by kernel_rfl
theorem Try.info45 : (Try.prog.info? 45).map (fun i => (i.zero, i.size, i.bytes)) = some (some (.agg #[.int .i64 0, .int .i64 0, .int .i64 0]), 3, 24) := by kernel_rfl

theorem ownsRow_ints {w : World} {base g n cap : Nat} {e : TypeId} {xs : List Value} {ks : List Int} (h : w.ownsRow base e 1 (.slice (some ⟨g, 0, none⟩) n cap) n xs) (hn : n = ks.length) (hx : ∀ j (h : j < ks.length), xs[j]? = some (.int .i64 ks[j])) :
    IntsAt w (.slice (some ⟨g, 0, none⟩) n cap) ks := by
  subst hn
  rcases h.2 with ⟨h', _⟩ | ⟨g', cap', cur, h', _, hg, hnc, hcm, hcs, htake⟩
  · simp at h'
  · simp only [Value.slice.injEq, Option.some.injEq, Addr.mk.injEq, and_true, true_and] at h'
    obtain ⟨rfl, rfl⟩ := h'
    exact ⟨_, _, rfl, hnc, hcm, fun _ => ⟨g, 0, rfl, fun j hj => by rw [Nat.zero_add, h.cellAt j (by omega)]; exact hx j hj⟩⟩

set_option maxHeartbeats 1000000 in
theorem toIntS_any (v : Value) (ks : List Int) (w : World) (hk : IntsAt w v ks) (hl : ks.length ≤ 1048576) :
    Calls Try.prog 15 #[v] w fun e w' => ∃ g, e = .returned (.slice (some ⟨g, 0, none⟩) ks.length ks.length) ∧ IntsAt w' (.slice (some ⟨g, 0, none⟩) ks.length ks.length) ks ∧ w.heap.size ≤ g ∧ Below w.heap.size w w' := by
  obtain ⟨i0, hi, hz0, hz1, hz2⟩ := info_parts Try.info3
  obtain ⟨a, cap, rfl, hlc, hcm, hc⟩ := hk
  have HC : Hid (0 < ks.length → ∃ b off, a = some ⟨b, off, none⟩ ∧ ∀ j (h : j < ks.length), w.cell? ⟨b, off + j, none⟩ = some (.int .i64 ks[j])) := hc
  clear hc
  go_enter Try.func15, Try.ntmps15
  go_wp2_with (at_make; refine wpList_make_full _ rfl _ _ 29 rfl w.heap.size 3 i0 (.int .i64 0) 1 Try.underlying29 hi hz0 hz1 .i64 .i64 _ _ ks.length rfl rfl rfl rfl (by rw [hz2]; omega) (by unfold maxLen; omega) (Nat.le_refl _) ?_; intro w1 hown hgrow)
  go_loopw [4] (fun i wr => ∃ (k : Nat) (xs : List Value), k ≤ ks.length ∧ i = .int .i64 k ∧ wr.ownsRow w.heap.size 3 1 (.slice (some ⟨w.heap.size, 0, none⟩) ks.length ks.length) ks.length xs ∧ Hid (∀ j (h : j < ks.length), j < k → xs[j]? = some (.int .i64 ks[j])) ∧ Below w.heap.size w wr) (fun i _ => ks.length - (intOf i).toNat)
  case atStart => exact ⟨0, _, by omega, rfl, hown, fun j _ h => by omega, (Below.refl _ _).grown hgrow (Nat.le_refl _) (fun k hk => by cases hk)⟩
  case round =>
    obtain ⟨k, xs, hk, rfl, hownr, HX, hbel⟩ := hrel
    by_cases hlt : k < ks.length
    · obtain ⟨b, off, ha, hc⟩ := HC.out (by omega)
      subst ha
      have c1 := hc k hlt
      have c1' := hbel.cell (p := ⟨b, off + k, none⟩) (lt_cell c1)
      rw [c1] at c1'
      have hst := hownr.stored k (.int .i64 ks[k])
      have hfz := hownr.frozenAt k
      have hce := hownr.cellAt k (by omega)
      have hxl := hownr.1
      obtain ⟨u, hu⟩ : ∃ u, xs[k]? = some u := ⟨xs[k]'(by omega), by simp⟩
      rw [hu] at hce
      have HX2 : Hid (∀ j (h : j < ks.length), j < k + 1 → (xs.set k (.int .i64 ks[k]))[j]? = some (.int .i64 ks[j])) := by
        intro j hj hjk
        rw [List.getElem?_set]
        by_cases e : k = j
        · subst e; rw [if_pos rfl, if_pos (by omega)]
        · rw [if_neg e]; exact HX.out j hj (by omega)
      clear hc c1 hu hown hgrow
      generalize ks[k] = q at *
      go_wp2_with fail
      go_roundw
      case rel => exact ⟨k + 1, _, by omega, by go_num, hst.1, HX2, hbel.setCell (Nat.le_refl _) _⟩
      case measure => simp [intOf]; omega
    · have hints := ownsRow_ints hownr rfl (fun j hj => HX.out j hj (by omega))
      clear hown hgrow hownr
      go_wp2_with fail
      go_ret
      exact ⟨_, rfl, hints, Nat.le_refl _, hbel⟩

set_option maxHeartbeats 1000000 in
theorem toCons_any (c : Cn) (w : World) :
    Calls Try.prog 26 #[.agg #[.int .i64 c.a, .int .i64 c.n, .int .i64 c.b]] w fun e w' => e = .returned (.agg #[.int .i64 c.a, .int .i64 c.n, .int .i64 c.b]) ∧ Below w.heap.size w w' := by
  go_enter Try.func26, Try.ntmps26
  go_wp2_with fail
  have hbel : ∀ o1 o2 o3, Below w.heap.size w (((w.alloc o1).alloc o2).alloc o3) := fun o1 o2 o3 => (((Below.refl w.heap.size w).alloc (Nat.le_refl _) o1).alloc (by simp) o2).alloc (by simp; omega) o3
  refine bodyPost_ret (v := .agg #[.int .i64 c.a, .int .i64 c.n, .int .i64 c.b]) (by simp [results, Try.results26, go_sem]) rfl ⟨rfl, ?_⟩
  repeat' (first | exact hbel _ _ _ | refine Below.setCell (p := ⟨_, _, _⟩) ?_ (by simp <;> omega) _)
end Go.Proofs.Ytahccieoideohaa
