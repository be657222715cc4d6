/- How constraints and numbers lie in memory: a row of triples, a row of numbers; that what was there stays so where nothing below is written; and what the copying, counting and comparing of them answers. -/
import Derived.Test.YteedainidoldoaaRows
import Derived.WalkKit
import Derived.ProofKit
import Derived.WalkLawsBesides
import Derived.WalkSpells
import Derived.Deep.Draws
import Derived.Deep.RegionWith
namespace Go.Proofs.Yteedainidoldoaa
open Go.ChangeShapes Go.WideShapes Go.ChangeAt Go.RowKit

theorem ret_bool {a b : Bool} (h : a = b) : Ending.returned (.bool a) = .returned (.bool b) := by rw [h]
theorem ret_int {k : IntKind} {a b : Int} (h : a = b) : Ending.returned (.int k a) = .returned (.int k b) := by rw [h]
theorem hide {p : Prop} (h : p) : Hid p := h

/-- A constraint: a's number plus n is at most b's. -/
structure Cn where
  a : Int
  n : Int
  b : Int
instance : Inhabited Cn := ⟨⟨0, 0, 0⟩⟩

/-- A constraint as a value. -/
def Cn.val (c : Cn) : Value := .agg #[.int .i64 c.a, .int .i64 c.n, .int .i64 c.b]

def IntsAt (w : World) (v : Value) (ks : List Int) : Prop :=
  ∃ a cap, v = .slice a ks.length cap ∧ ks.length ≤ cap ∧ cap ≤ maxLen ∧
    (0 < ks.length → ∃ b off, a = some ⟨b, off, none⟩ ∧ ∀ j (h : j < ks.length), w.cell? ⟨b, off + j, none⟩ = some (.int .i64 ks[j]))
def ConAt (w : World) (b o : Nat) (c : Cn) : Prop :=
  w.cell? ⟨b, o, none⟩ = some (.int .i64 c.a) ∧ w.cell? ⟨b, o + 1, none⟩ = some (.int .i64 c.n) ∧ w.cell? ⟨b, o + 2, none⟩ = some (.int .i64 c.b)
def ConsAt (w : World) (v : Value) (cs : List Cn) : Prop :=
  ∃ a cap, v = .slice a cs.length cap ∧ cs.length ≤ cap ∧ cap ≤ maxLen ∧
    (0 < cs.length → ∃ b off, a = some ⟨b, off, none⟩ ∧ ∀ i (h : i < cs.length), ConAt w b (off + i * 3) cs[i])

theorem lt_cell {w : World} {b o : Nat} {v : Value} (h : w.cell? ⟨b, o, none⟩ = some v) : b < w.heap.size := World.block_lt_of_cell? w ⟨b, o, none⟩ h
theorem keep_cell {w w' : World} (hb : Below w.heap.size w w') {b o : Nat} {v : Value} (h : w.cell? ⟨b, o, none⟩ = some v) : w'.cell? ⟨b, o, none⟩ = some v := by
  rw [hb.cell (p := ⟨b, o, none⟩) (lt_cell h)]; exact h
theorem IntsAt.keep {w w' : World} (hb : Below w.heap.size w w') {v : Value} {ks : List Int} (h : IntsAt w v ks) : IntsAt w' v ks := by
  obtain ⟨a, cap, hv, h1, h2, h3⟩ := h
  refine ⟨a, cap, hv, h1, h2, fun h0 => ?_⟩
  obtain ⟨b, off, ha, hc⟩ := h3 h0
  exact ⟨b, off, ha, fun j h => keep_cell hb (hc j h)⟩
theorem ConAt.keep {w w' : World} (hb : Below w.heap.size w w') {b o : Nat} {c : Cn} (h : ConAt w b o c) : ConAt w' b o c :=
  ⟨keep_cell hb h.1, keep_cell hb h.2.1, keep_cell hb h.2.2⟩
theorem ConsAt.keep {w w' : World} (hb : Below w.heap.size w w') {v : Value} {cs : List Cn} (h : ConsAt w v cs) : ConsAt w' v cs := by
  obtain ⟨a, cap, hv, h1, h2, h3⟩ := h
  refine ⟨a, cap, hv, h1, h2, fun h0 => ?_⟩
  obtain ⟨b, off, ha, hc⟩ := h3 h0
  exact ⟨b, off, ha, fun i h => (hc i h).keep hb⟩
theorem bel_alloc {a w : World} (h : Below a.heap.size a w) (o : Obj) : Below a.heap.size a (w.alloc o) := h.alloc h.size o
theorem grown_of {w w' : World} (hb : Below w.heap.size w w') : w.grownBy w' none := ⟨hb.os, hb.tape, hb.output, hb.size, fun k hk _ => hb.block k hk⟩
theorem row_keep {w w' : World} (hb : Below w.heap.size w w') {base : Nat} {e : TypeId} {size : Nat} {v : Value} {n : Nat} {xs : List Value} (h : w.ownsRow base e size v n xs) : w'.ownsRow base e size v n xs :=
  h.kept (grown_of hb) (by cases hv : v.ownBlock <;> simp)
theorem bcell {W w1 : World} (hb : Below W.heap.size W w1) : (∀ b o, b < W.heap.size → w1.cell? ⟨b, o, none⟩ = W.cell? ⟨b, o, none⟩) ∧ (∀ b o, b < W.heap.size → w1.frozen? ⟨b, o, none⟩ = W.frozen? ⟨b, o, none⟩) :=
  ⟨fun b o h => hb.cell (p := ⟨b, o, none⟩) h, fun b o h => hb.frozen (p := ⟨b, o, none⟩) h⟩
theorem bel_trans {w w1 w2 : World} (h : Below w.heap.size w w1) (h2 : Below w1.heap.size w1 w2) : Below w.heap.size w w2 := h.trans (h2.mono h.size)

/-- What is left when n is taken away: -1 where it is less than nothing. -/
def leftOf (left : Int) (n : Nat) : Int := if left < n then -1 else left - n

set_option maxHeartbeats 400000 in
theorem szConsS_any (v : Value) (cs : List Cn) (left : Int) (w : World) (hk : ConsAt w v cs) (h0 : 0 ≤ left) (h1 : left ≤ 1048576) :
    Calls Try.prog 6 #[v, .int .i64 left] w fun e w' => e = .returned (.int .i64 (leftOf left cs.length)) ∧ w' = w := by
  obtain ⟨a, cap, rfl, hlc, hcm, _⟩ := hk
  unfold maxLen at hcm
  by_cases h : left < cs.length
  · go_enter Try.func6, Try.ntmps6
    go_wp2
    go_ret
    exact ⟨ret_int (by rw [leftOf, if_pos h]), rfl⟩
  · go_enter Try.func6, Try.ntmps6
    go_wp2
    go_ret
    exact ⟨ret_int (by rw [leftOf, if_neg (by omega)]), rfl⟩

theorem Try.info3 : (Try.prog.info? 3).map (fun i => (i.zero, i.size, i.bytes)) = some (some (.int .i64 0), 1, 8) := by kernel_rfl
theorem Try.info42 : (Try.prog.info? 42).map (fun i => (i.zero, i.size, i.bytes)) = some (some (.agg #[.int .i64 0, .int .i64 0, .int .i64 0]), 3, 24) := by kernel_rfl

theorem ownsRow_ints {w : World} {base g n cap : Nat} {e : TypeId} {xs : List Value} {ks : List Int} (h : w.ownsRow base e 1 (.slice (some ⟨g, 0, none⟩) n cap) n xs) (hn : n = ks.length) (hx : ∀ j (h : j < ks.length), xs[j]? = some (.int .i64 ks[j])) :
    IntsAt w (.slice (some ⟨g, 0, none⟩) n cap) ks := by
  subst hn
  rcases h.2 with ⟨h', _⟩ | ⟨g', cap', cur, h', _, hg, hnc, hcm, hcs, htake⟩
  · simp at h'
  · simp only [Value.slice.injEq, Option.some.injEq, Addr.mk.injEq, and_true, true_and] at h'
    obtain ⟨rfl, rfl⟩ := h'
    exact ⟨_, _, rfl, hnc, hcm, fun _ => ⟨g, 0, rfl, fun j hj => by rw [Nat.zero_add, h.cellAt j (by omega)]; exact hx j hj⟩⟩

set_option maxHeartbeats 1000000 in
theorem toCons_any (c : Cn) (w : World) :
    Calls Try.prog 23 #[.agg #[.int .i64 c.a, .int .i64 c.n, .int .i64 c.b]] w fun e w' => e = .returned (.agg #[.int .i64 c.a, .int .i64 c.n, .int .i64 c.b]) ∧ Below w.heap.size w w' := by
  go_enter Try.func23, Try.ntmps23
  go_wp2_with fail
  have hbel : ∀ o1 o2 o3, Below w.heap.size w (((w.alloc o1).alloc o2).alloc o3) := fun o1 o2 o3 => (((Below.refl w.heap.size w).alloc (Nat.le_refl _) o1).alloc (by simp) o2).alloc (by simp; omega) o3
  refine bodyPost_ret (v := .agg #[.int .i64 c.a, .int .i64 c.n, .int .i64 c.b]) (by simp [results, Try.results23, go_sem]) rfl ⟨rfl, ?_⟩
  repeat' (first | exact hbel _ _ _ | refine Below.setCell (p := ⟨_, _, _⟩) ?_ (by simp <;> omega) _)
end Go.Proofs.Yteedainidoldoaa
