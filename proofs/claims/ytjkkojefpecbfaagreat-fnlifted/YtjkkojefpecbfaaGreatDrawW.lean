/- What the specification's l1Level answers: the level of a tree, in new memory. -/
import Derived.Test.YtjkkojefpecbfaaGreatNodes
import Derived.Test.YtjkkojefpecbfaaGreatSpec
import Derived.Test.YtjkkojefpecbfaaGreatSpecL
import Derived.Test.YtjkkojefpecbfaaGreatTree
import Derived.Test.YtjkkojefpecbfaaGreatFlat
namespace Go.Proofs.YtjkkojefpecbfaaGreat
open Go.ChangeShapes Go.WideShapes Go.ChangeAt Go.RowKit

theorem KidRow.ints {base : Nat} {w : World} {kv : Value} {ks : List Int} (h : KidRow base w kv ks) : IntsAt w kv ks := by
  rcases h.2 with ⟨h1, h0⟩ | ⟨g, cap, cur, h1, _, hg, hnc, hcm, hcs, htake⟩
  · exact ⟨none, 0, by rw [h1, h0], by omega, by unfold maxLen; omega, fun h => by omega⟩
  · refine ⟨_, cap, h1, hnc, hcm, fun _ => ⟨g, 0, rfl, fun j hj => ?_⟩⟩
    have h3 : w.ownsRow base 3 1 (.slice (some ⟨g, 0, none⟩) ks.length cap) ks.length (ks.map (Value.int .i64)) := by rw [← h1]; exact h
    rw [Nat.zero_add, h3.cellAt j (by omega), List.getElem?_map, List.getElem?_eq_getElem hj]; rfl
theorem NdRow.nodes {base : Nat} {Q : Nat → Prop} {w : World} {g cap : Nat} {ns : List Nd} (h : NdRow base Q w g cap ns) : NodesAt w (.slice (some ⟨g, 0, none⟩) ns.length cap) ns := by
  obtain ⟨xs, h1, h2⟩ := h
  obtain ⟨hc1, hc2⟩ := ownsRow_cap h1
  refine ⟨_, cap, rfl, hc1, hc2, fun _ => ⟨g, 0, rfl, fun i hi => ?_⟩⟩
  obtain ⟨a, b, kv, c, d, _⟩ := h2 i hi
  rw [Nat.zero_add]
  exact ⟨by rw [h1.cellAt _ (by omega)]; exact a, by rw [h1.cellAt _ (by omega)]; exact b, kv, by rw [h1.cellAt _ (by omega)]; exact c, d.ints⟩
theorem NdRow.set {base : Nat} {Q : Nat → Prop} {w : World} {g cap : Nat} {ns : List Nd} (h : NdRow base Q w g cap ns) {p : Addr} (hp : g ≠ p.block) (ht : ∃ cs e, e ≠ 3 ∧ w.heap[p.block]? = some (.cells cs e (0, 0))) (u : Value) : NdRow base Q (w.setCell p u) g cap ns := by
  obtain ⟨xs, h1, h2⟩ := h
  refine ⟨xs, own_set h1 hp u, fun i hi => ?_⟩
  obtain ⟨a, b, kv, c, d, q⟩ := h2 i hi
  exact ⟨a, b, kv, c, d.set ht u, q⟩

theorem NdRowA.set {base : Nat} {Q : Nat → Prop} {w : World} {g cap : Nat} {ns : List Nd} (h : NdRowA base Q w g cap ns) {p : Addr} (hp : g ≠ p.block) (ht : ∃ cs e, e ≠ 3 ∧ w.heap[p.block]? = some (.cells cs e (0, 0))) (u : Value) : NdRowA base Q (w.setCell p u) g cap ns := by
  obtain ⟨xs, h1, h2, h3⟩ := h
  refine ⟨xs, own_set h1 hp u, fun i hi => ?_, h3⟩
  obtain ⟨a, b, kv, c, d, q⟩ := h2 i hi
  exact ⟨a, b, kv, c, d.set ht u, q⟩

set_option maxRecDepth 20000 in
set_option maxHeartbeats 1000000 in
theorem l1LevelA_any (t : Tr) (p : Nat) (w : World) (ht : TreeAt w.heap.size w p t) (hc : t.cnt ≤ 1000) :
    Calls Tryz.prog 142 #[.pointer (some ⟨p, 0, none⟩)] w fun e w' => ∃ g cap, e = .returned (.agg #[.slice (some ⟨g, 0, none⟩) (t.flat 0).length cap]) ∧ NdRowA w.heap.size (fun _ => True) w' g cap (t.flat 0) ∧ Below w.heap.size w w' := by
  have hpl := ht.lt
  obtain ⟨W, hW⟩ : ∃ W, W = (w.alloc (.cells #[.slice none 0 0] 111)).alloc (.cells #[] 174) := ⟨_, rfl⟩
  have HB := hide (show Below w.heap.size w W by rw [hW]; exact bel_alloc (bel_alloc (Below.refl _ _) _) _)
  have hr := World.ownsRow_lit (base := w.heap.size) (e := 174) (size := 3) (w.alloc (.cells #[.slice none 0 0] 111)) #[] 0 (by simp) (by unfold maxLen; omega) rfl
  rw [← hW, World.size_alloc] at hr
  have HN : Hid (NdRowA w.heap.size (fun _ => True) W (w.heap.size + 1) 0 []) := ⟨_, hr, fun i h => by simp at h, fun i j h => by simp at h⟩
  have HT := hide (ht.keep HB.out)
  have hsW : W.heap.size = w.heap.size + 1 + 1 := by rw [hW]; simp
  have x0 : W.cell? ⟨w.heap.size, 0, none⟩ = some (.slice none 0 0) := by rw [hW]; simp [go_sem]
  have xf : W.frozen? ⟨w.heap.size, 0, none⟩ = false := by rw [hW]; simp [go_sem]
  have HXB := hide (show W.heap[w.heap.size]? = some (.cells #[.slice none 0 0] 111 (0, 0)) by rw [hW]; exact new_block w _ _ 0)
  have HS := hide hsW
  clear hr ht hsW
  go_enter Tryz.func142, Tryz.ntmps142
  go_wp2_with fail
  rw [← hW]
  clear hW
  have hcall := l1Nodes_any t p W (w.heap.size + 1) 0 [] w.heap.size (fun _ => True) HT.out HN.out (fun _ _ => trivial) (by have := HS.out; omega) (by simp; omega)
  simp only [List.length_nil, List.nil_append] at hcall
  refine hcall.mono ?_
  clear hcall
  rintro e w2 ⟨g2, cap2, rfl, hn2, hg2, hg2'⟩
  have hs := HS.out
  have x0 := (hg2.cell_far ⟨w.heap.size, 0, none⟩ (by show w.heap.size < _; omega) (by simp)).trans x0
  have xf := (hg2.frozen_far ⟨w.heap.size, 0, none⟩ (by show w.heap.size < _; omega) (by simp)).trans xf
  have HXB2 := hide ((hg2.block w.heap.size (by omega) (by simp)).trans HXB.out)
  have HB2 := hide (HB.out.trans ((Below.refl w.heap.size W).grown hg2 (by omega) (fun q hq => by simp at hq; omega)))
  have HN2 := hide (hn2.set (p := ⟨w.heap.size, 0, none⟩) (by show g2 ≠ w.heap.size; omega) ⟨_, 111, by decide, HXB2.out⟩ (.slice (some ⟨g2, 0, none⟩) (t.flat 0).length cap2))
  clear hn2 hg2 hs
  go_wp2_with fail
  refine bodyPost_ret (v := .agg #[.slice (some ⟨g2, 0, none⟩) (t.flat 0).length cap2]) (by simp [results, go_sem, x0]) rfl ⟨g2, cap2, rfl, HN2.out, HB2.out.setCell (p := ⟨_, _, _⟩) (Nat.le_refl _) _⟩
set_option maxRecDepth 20000 in
theorem l1Level_any (t : Tr) (p : Nat) (w : World) (ht : TreeAt w.heap.size w p t) (hc : t.cnt ≤ 1000) :
    Calls Tryz.prog 142 #[.pointer (some ⟨p, 0, none⟩)] w fun e w' => ∃ g cap, e = .returned (.agg #[.slice (some ⟨g, 0, none⟩) (t.flat 0).length cap]) ∧ NdRow w.heap.size (fun _ => True) w' g cap (t.flat 0) ∧ Below w.heap.size w w' :=
  (l1LevelA_any t p w ht hc).mono fun _ _ ⟨g, cap, h1, h2, h3⟩ => ⟨g, cap, h1, h2.weak, h3⟩
end Go.Proofs.YtjkkojefpecbfaaGreat

/- What the specification's reader of bytes answers: the next byte, by its place among the bytes. -/
namespace Go.Proofs.YtjkkojefpecbfaaGreat
open Go.ChangeShapes Go.WideShapes Go.ChangeAt Go.RowKit

/-- Bytes and a place among them. -/
structure Pl where
  bs : List UInt8
  p : Nat
/-- The byte at the place, 0 behind the end; and the next place. -/
def Pl.v (ρ : Pl) : Nat := if h : ρ.p < ρ.bs.length then ρ.bs[ρ.p].toNat else 0
def Pl.n (ρ : Pl) : Pl := if ρ.p < ρ.bs.length then ⟨ρ.bs, ρ.p + 1⟩ else ρ
theorem Pl.v_lt (ρ : Pl) : ρ.v < 256 := by
  unfold Pl.v; split
  · exact UInt8.toNat_lt _
  · omega
/-- Bytes that lie below a block number. -/
def BytesAt (base : Nat) (w : World) (a : Option Addr) (bs : List UInt8) : Prop :=
  0 < bs.length → ∃ b off, a = some ⟨b, off, none⟩ ∧ b < base ∧ ∀ j (h : j < bs.length), w.cell? ⟨b, off + j, none⟩ = some (.int .u8 (bs[j].toNat : Int))
/-- A reader: bytes and a place. -/
def RdAt (ρ : Pl) (base : Nat) (w : World) (R : Nat) : Prop :=
  ∃ (a : Option Addr) (cap : Nat), w.ownsRow base 176 2 (.slice (some ⟨R, 0, none⟩) 1 1) 1 [.slice a ρ.bs.length cap, .int .i64 (ρ.p : Int)] ∧ ρ.bs.length ≤ 1000 ∧ ρ.p ≤ 1000 ∧ BytesAt base w a ρ.bs
theorem RdAt.lt {ρ : Pl} {base : Nat} {w : World} {R : Nat} (h : RdAt ρ base w R) : base ≤ R ∧ R < w.heap.size := by
  obtain ⟨a, cap, h1, _⟩ := h; exact h1.lt R rfl
theorem RdAt.row {ρ : Pl} {base : Nat} {w : World} {R : Nat} (h : RdAt ρ base w R) : ∃ a n cap p, w.ownsRow base 176 2 (.slice (some ⟨R, 0, none⟩) 1 1) 1 [.slice a n cap, .int .i64 (p : Int)] := by
  obtain ⟨a, cap, h1, _⟩ := h; exact ⟨a, _, cap, _, h1⟩
theorem RdAt.tag {ρ : Pl} {base : Nat} {w : World} {R : Nat} (h : RdAt ρ base w R) : ∃ cs, w.heap[R]? = some (.cells cs 176 (0, 0)) := by
  obtain ⟨a, cap, h1, _⟩ := h; exact row_tag h1
theorem BytesAt.keep {base : Nat} {w w' : World} {a : Option Addr} {bs : List UInt8} (h : BytesAt base w a bs) (hb : Below base w w') : BytesAt base w' a bs := fun h0 => by
  obtain ⟨b, off, h1, h2, h3⟩ := h h0
  refine ⟨b, off, h1, h2, fun j hj => ?_⟩
  rw [hb.cell (p := ⟨b, off + j, none⟩) h2]; exact h3 j hj
theorem RdAt.keep {ρ : Pl} {base : Nat} {w w' : World} {R : Nat} (h : RdAt ρ base w R) (hb : Below w.heap.size w w') : RdAt ρ base w' R := by
  have hl := h.lt
  obtain ⟨a, cap, h1, h2, h3, h4⟩ := h
  exact ⟨a, cap, row_keep hb h1, h2, h3, h4.keep (hb.mono (by omega))⟩
/-- A row of other cells may be written. -/
theorem RdAt.grown {ρ : Pl} {base : Nat} {w w' : World} {R g : Nat} (h : RdAt ρ base w R) (hg : w.grownBy w' (some g)) (hr : R ≠ g) (hb : base ≤ g) : RdAt ρ base w' R := by
  have hl := h.lt
  obtain ⟨a, cap, h1, h2, h3, h4⟩ := h
  exact ⟨a, cap, h1.kept hg (.inr (by simp [Value.ownBlock]; exact hr)), h2, h3, h4.keep (below_of hg hb (by omega))⟩

set_option maxRecDepth 20000 in
set_option maxHeartbeats 1000000 in
theorem next_any {ρ : Pl} (R : Nat) (base : Nat) (w : World) (h : RdAt ρ base w R) :
    Calls Tryz.prog 80 #[.pointer (some ⟨R, 0, none⟩)] w fun e w' => ∃ v : Int, e = .returned (.int .i64 v) ∧ 0 ≤ v ∧ v < 256 ∧ RdAt ρ.n base w' R ∧ w.grownBy w' (some R) ∧ v = (ρ.v : Int) := by
  have hl := h.lt
  obtain ⟨a, cap, h1, h2, h3, h4⟩ := h
  obtain ⟨bs, p⟩ := ρ
  simp only at h1 h2 h3 h4
  have c0 : w.cell? ⟨R, 0, none⟩ = some (.slice a bs.length cap) := by rw [h1.cellAt 0 (by omega)]; rfl
  have c1 : w.cell? ⟨R, 1, none⟩ = some (.int .i64 (p : Int)) := by rw [h1.cellAt 1 (by omega)]; rfl
  have cf : w.frozen? ⟨R, 1, none⟩ = false := h1.frozenAt 1
  have H1 := hide h1
  have H4 := hide h4
  clear h1 h4
  by_cases hp : p < bs.length
  · obtain ⟨b, off, rfl, hb, hq⟩ := H4.out (by omega)
    have cq := hq p hp
    have HE : Hid ((Pl.mk bs p).n = ⟨bs, p + 1⟩ ∧ (Pl.mk bs p).v = bs[p].toNat) := by
      show _ ∧ _
      unfold Pl.n Pl.v
      simp [hp]
    obtain ⟨q, hqe⟩ : ∃ q : Nat, q = bs[p].toNat := ⟨_, rfl⟩
    have q1 : q < 256 := by rw [hqe]; exact UInt8.toNat_lt _
    rw [← hqe] at cq HE
    clear hqe
    have hp' : (p : Int) < (bs.length : Int) := by omega
    have hw1 : IntKind.i64.wrap ((p : Int) + 1) = (p : Int) + 1 := by rw [IntKind.wrap_i64]; omega
    have hwq : IntKind.i64.wrap (q : Int) = (q : Int) := by rw [IntKind.wrap_i64]; omega
    have HN := hide (show w.drew.drew.ownsRow base 176 2 (.slice (some ⟨R, 0, none⟩) 1 1) 1 [.slice (some ⟨b, off, none⟩) bs.length cap, .int .i64 (p : Int)] from H1.out)
    have hbne : ¬ b = R := by omega
    clear hq
    go_enter Tryz.func80, Tryz.ntmps80
    go_wp2_with fail
    go_region
    go_wp2_with fail
    go_region
    go_wp2_with fail
    go_ret
    refine ⟨q, rfl, by omega, by omega, ?_, ?_, by rw [HE.out.2]⟩
    · rw [HE.out.1]
      exact ⟨_, cap, (HN.out.stored 1 (.int .i64 ((p + 1 : Nat) : Int))).1, h2, (by show p + 1 ≤ 1000; omega), H4.out.keep ((((Below.refl base w).drew).drew).setCell (p := ⟨_, _, _⟩) (by show base ≤ R; omega) _)⟩
    · exact ((((grown_of ((Below.refl w.heap.size w).drew.drew)).but (some R)).trans (grown_set _ ⟨R, 1, none⟩ _)))
  · have hp' : ¬ (p : Int) < (bs.length : Int) := by omega
    have HE : Hid ((Pl.mk bs p).n = ⟨bs, p⟩ ∧ (Pl.mk bs p).v = 0) := by
      show _ ∧ _
      unfold Pl.n Pl.v
      simp [hp]
    go_enter Tryz.func80, Tryz.ntmps80
    go_wp2_with fail
    go_region
    go_wp2_with fail
    go_ret
    exact ⟨0, rfl, by omega, by omega, by rw [HE.out.1]; exact ⟨a, cap, H1.out, h2, h3, H4.out.keep (Below.refl base w).drew⟩, (grown_of ((Below.refl w.heap.size w).drew)).but _, by rw [HE.out.2]; rfl⟩
end Go.Proofs.YtjkkojefpecbfaaGreat

/- Plain facts: the program's trees of levels as plain data, and trees of the specification's in new memory. -/
namespace Go.Proofs.YtjkkojefpecbfaaGreat
open Go.ChangeShapes Go.WideShapes Go.ChangeAt Go.RowKit


theorem get_left {α : Type} {xs : List α} {q : Nat} {a : α} (ys : List α) (h : xs[q]? = some a) : (xs ++ ys)[q]? = some a := by
  rw [List.getElem?_append_left (List.getElem?_eq_some_iff.1 h).1]; exact h
theorem get_right {α : Type} {xs : List α} {q : Nat} {a : α} (ys : List α) (h : xs[q]? = some a) : (ys ++ xs)[ys.length + q]? = some a := by
  rw [List.getElem?_append_right (by omega), show ys.length + q - ys.length = q from by omega]; exact h
theorem bel_new (w : World) (o : Obj) (n : Nat) : Below w.heap.size w ((w.alloc o).drewN n) := below_drewN (bel_alloc (Below.refl _ _) _) n
theorem tree_one {w : World} {pa : Nat} {a : Tr} (ha : TreeAt w.heap.size w pa a) (k : Int) (s : ByteArray) (n : Nat) : TreeAt ((w.alloc (nodeV k s (.pointer (some ⟨pa, 0, none⟩)) (.pointer none) (min 1000 (1 + a.sz)))).drewN n).heap.size ((w.alloc (nodeV k s (.pointer (some ⟨pa, 0, none⟩)) (.pointer none) (min 1000 (1 + a.sz)))).drewN n) w.heap.size (.one k s a) :=
  ⟨by show _ < (w.alloc _).heap.size; simp, pa, by show (w.alloc _).heap[w.heap.size]? = _; exact heap_alloc_new w _, (ha.keep (bel_new w _ n)).mono (bel_new w _ n).size⟩
theorem tree_two {w : World} {pa pb : Nat} {a b : Tr} (ha : TreeAt w.heap.size w pa a) (hb : TreeAt w.heap.size w pb b) (k : Int) (s : ByteArray) (n : Nat) : TreeAt ((w.alloc (nodeV k s (.pointer (some ⟨pa, 0, none⟩)) (.pointer (some ⟨pb, 0, none⟩)) (min 1000 (1 + a.sz + b.sz)))).drewN n).heap.size ((w.alloc (nodeV k s (.pointer (some ⟨pa, 0, none⟩)) (.pointer (some ⟨pb, 0, none⟩)) (min 1000 (1 + a.sz + b.sz)))).drewN n) w.heap.size (.two k s a b) :=
  ⟨by show _ < (w.alloc _).heap.size; simp, pa, pb, by show (w.alloc _).heap[w.heap.size]? = _; exact heap_alloc_new w _, (ha.keep (bel_new w _ n)).mono (bel_new w _ n).size, (hb.keep (bel_new w _ n)).mono (bel_new w _ n).size⟩
end Go.Proofs.YtjkkojefpecbfaaGreat

/- What the specification's draws of trees of levels answer: a tree of few nodes whose texts fit. -/
namespace Go.Proofs.YtjkkojefpecbfaaGreat
open Go.ChangeShapes Go.WideShapes Go.ChangeAt Go.RowKit

theorem tmod_nat {v : Int} {m : Nat} (h0 : 0 ≤ v) (hm : 0 < m) : ∃ r : Nat, v.tmod (m : Int) = (r : Int) ∧ r < m := by
  obtain ⟨n, rfl⟩ : ∃ n : Nat, v = (n : Int) := ⟨v.toNat, by omega⟩
  exact ⟨n % m, by rw [← Int.ofNat_tmod], Nat.mod_lt _ hm⟩
theorem tmod_is {n m : Nat} : (n : Int).tmod (m : Int) = ((n % m : Nat) : Int) := by rw [← Int.ofNat_tmod]

set_option maxRecDepth 20000 in
set_option maxHeartbeats 1000000 in
theorem pick_any {ρ : Pl} (R base g : Nat) (ss : List ByteArray) (w : World) (h : RdAt ρ base w R) (hm : 0 < ss.length) (hm2 : ss.length ≤ 100) (hg : g ≠ R) (hc : ∀ j (hj : j < ss.length), w.cell? ⟨g, j, none⟩ = some (.string ss[j])) :
    Calls Tryz.prog 174 #[.pointer (some ⟨R, 0, none⟩), .slice (some ⟨g, 0, none⟩) ss.length ss.length] w fun e w' => ∃ s, e = .returned (.string s) ∧ s ∈ ss ∧ RdAt ρ.n base w' R ∧ w.grownBy w' (some R) ∧ s = ss.getD (ρ.v % ss.length) ⟨#[]⟩ := by
  have HR := hide h
  have HC := hide hc
  have hlg := lt_cell (hc 0 hm)
  have hne : ¬ ss = [] := by intro e; subst e; simp at hm
  have hne2 : ¬ (ss.length : Int) = 0 := by omega
  clear h hc
  go_enter Tryz.func174, Tryz.ntmps174
  go_wp2_with fail
  refine (next_any R base _ HR.out).mono ?_
  rintro e w1 ⟨v, rfl, hv0, hv1, hr1, hg1, hve⟩
  obtain ⟨r, hr, hrl⟩ := tmod_nat hv0 hm
  have HRE : Hid (r = ρ.v % ss.length) := by show _ = _; rw [hve, tmod_is] at hr; omega
  clear hve
  have c1 : w1.cell? ⟨g, r, none⟩ = some (.string ss[r]) := (hg1.cell_far ⟨g, r, none⟩ hlg (by simp; exact hg)).trans (HC.out r hrl)
  have hrl' : (r : Int) < (ss.length : Int) := by omega
  have hwr : IntKind.i64.wrap (r : Int) = (r : Int) := by rw [IntKind.wrap_i64]; omega
  have HM := hide (show ss[r] ∈ ss by simp)
  have HSE : Hid (ss[r] = ss.getD (ρ.v % ss.length) ⟨#[]⟩) := by show _ = _; rw [← HRE.out]; simp [hrl]
  have HR1 := hide hr1
  have HG1 := hide hg1
  clear hr1 hg1
  go_wp2_with fail
  go_ret
  exact ⟨_, rfl, HM.out, HR1.out, HG1.out, HSE.out⟩

/-- A new node of a tree. -/
theorem tree_leaf (w : World) (k : Int) (s : ByteArray) (n : Nat) : TreeAt ((w.alloc (nodeV k s (.pointer none) (.pointer none) 1)).drewN n).heap.size ((w.alloc (nodeV k s (.pointer none) (.pointer none) 1)).drewN n) w.heap.size (.leaf k s) :=
  ⟨by show _ < (w.alloc _).heap.size; simp, by show (w.alloc _).heap[w.heap.size]? = _; exact heap_alloc_new w _⟩
set_option maxHeartbeats 400000 in
theorem l1Param_any (s : ByteArray) (w : World) : Calls Tryz.prog 173 #[.string s] w fun e w' => e = .returned (.pointer (some ⟨w.heap.size, 0, none⟩)) ∧ TreeAt w'.heap.size w' w.heap.size (.leaf 5 s) ∧ Below w.heap.size w w' := by
  go_enter Tryz.func173, Tryz.ntmps173
  go_wp2_with (go_at_call 160; refine (make_leaf 5 s _).mono ?_; rintro e w' ⟨rfl, n, rfl⟩)
  go_ret
  exact ⟨rfl, tree_leaf w 5 s n, bel_new w _ n⟩
set_option maxHeartbeats 400000 in
theorem l1Zero_any (w : World) : Calls Tryz.prog 175 #[] w fun e w' => e = .returned (.pointer (some ⟨w.heap.size, 0, none⟩)) ∧ TreeAt w'.heap.size w' w.heap.size (.leaf 1 ⟨#[]⟩) ∧ Below w.heap.size w w' := by
  go_enter Tryz.func175, Tryz.ntmps175
  go_wp2_with (go_at_call 160; refine (make_leaf 1 ⟨#[]⟩ _).mono ?_; rintro e w' ⟨rfl, n, rfl⟩)
  go_ret
  exact ⟨rfl, tree_leaf w 1 _ n, bel_new w _ n⟩
set_option maxHeartbeats 400000 in
theorem l1Succ_any (a : Tr) (pa : Nat) (w : World) (ha : TreeAt w.heap.size w pa a) : Calls Tryz.prog 176 #[.pointer (some ⟨pa, 0, none⟩)] w fun e w' => e = .returned (.pointer (some ⟨w.heap.size, 0, none⟩)) ∧ TreeAt w'.heap.size w' w.heap.size (.one 2 ⟨#[]⟩ a) ∧ Below w.heap.size w w' := by
  have h4 := ha.cell4
  have hs := a.sz_le
  have HA := hide ha
  clear ha
  go_enter Tryz.func176, Tryz.ntmps176
  go_wp2_with (go_at_call 160; refine (make_one 2 ⟨#[]⟩ pa a.sz _ h4 hs).mono ?_; rintro e w' ⟨rfl, n, rfl⟩)
  go_ret
  exact ⟨rfl, tree_one HA.out 2 _ n, bel_new w _ n⟩
end Go.Proofs.YtjkkojefpecbfaaGreat

/- What the specification's l1Draw answers: a tree of few nodes whose texts fit. -/
namespace Go.Proofs.YtjkkojefpecbfaaGreat
open Go.ChangeShapes Go.WideShapes Go.ChangeAt Go.RowKit

def uvw : List ByteArray := [⟨#[117]⟩, ⟨#[118]⟩, ⟨#[119]⟩]
theorem uvw_ok {s : ByteArray} (h : s ∈ uvw) : (Tr.leaf 5 s).ok := by
  simp only [uvw, List.mem_cons, List.not_mem_nil, or_false] at h
  rcases h with rfl | rfl | rfl <;> refine ⟨.inr rfl, ?_⟩ <;> unfold fieldsB paramB shortB <;> simp only [ByteArray.toList_eq] <;> decide
theorem empty_ok (k : Int) (h : k ≠ 5) : fieldsB ⟨k, ⟨#[]⟩, []⟩ = true := by unfold fieldsB; simp [ByteArray.toList_eq, h]
theorem uvw_cells (w : World) : ∀ j (hj : j < uvw.length), (w.alloc (.cells #[.string ⟨#[117]⟩, .string ⟨#[118]⟩, .string ⟨#[119]⟩] 9)).cell? ⟨w.heap.size, j, none⟩ = some (.string uvw[j]) := by
  intro j hj
  rw [cell_of_row _ _ _ _ _ _ (heap_alloc_new w _)]
  match j, hj with
  | 0, _ => rfl
  | 1, _ => rfl
  | 2, _ => rfl
/-- What is drawn, and the place behind it. -/
def drw : Nat → Nat → Pl → Tr × Pl
  | 0, _, ρ => (.leaf 5 (uvw.getD (ρ.n.v % 3) ⟨#[]⟩), ρ.n.n)
  | d + 1, deep, ρ =>
    if 4 < deep ∨ ρ.v % 8 < 3 then (.leaf 5 (uvw.getD (ρ.n.v % 3) ⟨#[]⟩), ρ.n.n)
    else if ρ.v % 8 = 3 then (.leaf 1 ⟨#[]⟩, ρ.n)
    else if ρ.v % 8 < 6 then (.one 2 ⟨#[]⟩ (drw d (deep + 1) ρ.n).1, (drw d (deep + 1) ρ.n).2)
    else (.two (3 + ((ρ.v / 8 % 2 : Nat) : Int)) ⟨#[]⟩ (drw d (deep + 1) ρ.n).1 (drw d (deep + 1) (drw d (deep + 1) ρ.n).2).1, (drw d (deep + 1) (drw d (deep + 1) ρ.n).2).2)
/-- What l1Draw answers, so many steps above the deepest. -/
def DrawIH (d : Nat) : Prop := ∀ (ρ : Pl) (deep R base : Nat) (w : World), 5 ≤ deep + d → deep ≤ 1000 → RdAt ρ base w R → Calls Tryz.prog 128 #[.pointer (some ⟨R, 0, none⟩), .int .i64 (deep : Int)] w fun e w' => ∃ g t, e = .returned (.pointer (some ⟨g, 0, none⟩)) ∧ TreeAt w'.heap.size w' g t ∧ t.ok ∧ t.cnt + 1 ≤ 2 ^ (d + 1) ∧ RdAt (drw d deep ρ).2 base w' R ∧ w.grownBy w' (some R) ∧ t = (drw d deep ρ).1
theorem tree_rd {ρ : Pl} {base : Nat} {w w' : World} {R g : Nat} {t : Tr} (h : RdAt ρ base w R) (hg : w.grownBy w' (some R)) (ht : TreeAt w.heap.size w g t) : TreeAt w'.heap.size w' g t :=
  (ht.grown hg (fun k hk => by simp at hk; subst hk; obtain ⟨cs, hc⟩ := h.tag; exact ⟨cs, 176, by decide, hc⟩)).mono hg.size

set_option maxRecDepth 20000 in
set_option maxHeartbeats 1000000 in
theorem draw_zero : DrawIH 0 := by
  intro ρ deep R base w hd hdm h
  have hl := h.lt
  have HR0 := hide h
  have HPW : Hid ((Tr.leaf 5 ⟨#[]⟩).cnt + 1 ≤ 2 ^ (0 + 1)) := by show _ ≤ _; simp only [Tr.cnt]; have : 2 ^ 1 ≤ 2 ^ (0 + 1) := Nat.pow_le_pow_right (by omega) (by omega); omega
  clear h
  go_enter Tryz.func128, Tryz.ntmps128
  go_wp2_with fail
  refine (next_any R base _ HR0.out).mono ?_
  rintro e w1 ⟨v, rfl, hv0, hv1, hr1, hg1, hve⟩
  have hsz1 := hg1.size
  have hRl := hr1.lt
  have HR1 := hide hr1
  have HG1 := hide hg1
  clear hr1 hg1 hve
  have d1 : decide (4 < (deep : Int)) = true := by simp; omega
  go_wp2_with (first
    | (go_at_call 174; refine (pick_any R base w1.heap.size uvw _ (HR1.out.keep (bel_alloc (Below.refl _ _) _)) (by decide) (by decide) (by omega) (uvw_cells w1)).mono ?_; rintro e w2 ⟨s, rfl, hs, hr2, hg2, hse⟩; have HSE := hide hse; clear hse)
    | (go_at_call 173; refine (l1Param_any s _).mono ?_; rintro e w3 ⟨rfl, ht3, hb3⟩)
    | fail)
  go_ret
  exact ⟨_, .leaf 5 s, rfl, ht3, uvw_ok hs, HPW.out, hr2.keep hb3, ((HG1.out.trans (((grown_of (bel_alloc (Below.refl w1.heap.size w1) _)).but (some R)).trans hg2))).trans ((grown_of hb3).but (some R)), by rw [HSE.out]; rfl⟩

set_option maxRecDepth 20000 in
set_option maxHeartbeats 2000000 in
theorem draw_succ (d : Nat) (IH : Hid (DrawIH d)) : DrawIH (d + 1) := by
  intro ρ deep R base w hd hdm h
  have hl := h.lt
  have HR0 := hide h
  have HPW : Hid ((Tr.leaf 5 ⟨#[]⟩).cnt + 1 ≤ 2 ^ ((d + 1) + 1)) := by show _ ≤ _; simp only [Tr.cnt]; have : 2 ^ 1 ≤ 2 ^ ((d + 1) + 1) := Nat.pow_le_pow_right (by omega) (by omega); omega
  clear h
  go_enter Tryz.func128, Tryz.ntmps128
  go_wp2_with fail
  refine (next_any R base _ HR0.out).mono ?_
  rintro e w1 ⟨v, rfl, hv0, hv1, hr1, hg1, hve⟩
  have hsz1 := hg1.size
  have hRl := hr1.lt
  have HR1 := hide hr1
  have HG1 := hide hg1
  have HVE := hide hve
  clear hr1 hg1 hve
  by_cases hdeep : 4 < deep
  · have d1 : decide (4 < (deep : Int)) = true := by simp; omega
    go_wp2_with (first
      | (go_at_call 174; refine (pick_any R base w1.heap.size uvw _ (HR1.out.keep (bel_alloc (Below.refl _ _) _)) (by decide) (by decide) (by omega) (uvw_cells w1)).mono ?_; rintro e w2 ⟨s, rfl, hs, hr2, hg2, hse⟩; have HSE := hide hse; clear hse)
      | (go_at_call 173; refine (l1Param_any s _).mono ?_; rintro e w3 ⟨rfl, ht3, hb3⟩)
      | fail)
    go_ret
    have HE : drw (d + 1) deep ρ = (.leaf 5 (uvw.getD (ρ.n.v % 3) ⟨#[]⟩), ρ.n.n) := by rw [drw, if_pos (.inl hdeep)]
    exact ⟨_, .leaf 5 s, rfl, ht3, uvw_ok hs, HPW.out, by rw [HE]; exact hr2.keep hb3, ((HG1.out.trans (((grown_of (bel_alloc (Below.refl w1.heap.size w1) _)).but (some R)).trans hg2))).trans ((grown_of hb3).but (some R)), by rw [HE, HSE.out]; rfl⟩
  have d1 : decide (4 < (deep : Int)) = false := by simp; omega
  obtain ⟨r, hr, hrl⟩ := tmod_nat (m := 8) hv0 (by omega)
  have hr' : v.tmod 8 = (r : Int) := hr
  have HRE : Hid (r = ρ.v % 8) := by show _ = _; have h1 := hr; rw [HVE.out] at h1; have h2 := tmod_is (n := ρ.v) (m := 8); omega
  have hwr : IntKind.i64.wrap (r : Int) = (r : Int) := by rw [IntKind.wrap_i64]; omega
  have hwd : IntKind.i64.wrap ((deep : Int) + 1) = ((deep + 1 : Nat) : Int) := by rw [IntKind.wrap_i64]; omega
  by_cases h3 : r < 3
  · have d2 : decide ((r : Int) < 3) = true := by simp; omega
    go_wp2_with (first
      | (go_at_call 174; refine (pick_any R base w1.heap.size uvw _ (HR1.out.keep (bel_alloc (Below.refl _ _) _)) (by decide) (by decide) (by omega) (uvw_cells w1)).mono ?_; rintro e w2 ⟨s, rfl, hs, hr2, hg2, hse⟩; have HSE := hide hse; clear hse)
      | (go_at_call 173; refine (l1Param_any s _).mono ?_; rintro e w3 ⟨rfl, ht3, hb3⟩)
      | fail)
    go_ret
    have HE : drw (d + 1) deep ρ = (.leaf 5 (uvw.getD (ρ.n.v % 3) ⟨#[]⟩), ρ.n.n) := by rw [drw, if_pos (.inr (by rw [← HRE.out]; exact h3))]
    exact ⟨_, .leaf 5 s, rfl, ht3, uvw_ok hs, HPW.out, by rw [HE]; exact hr2.keep hb3, ((HG1.out.trans (((grown_of (bel_alloc (Below.refl w1.heap.size w1) _)).but (some R)).trans hg2))).trans ((grown_of hb3).but (some R)), by rw [HE, HSE.out]; rfl⟩
  have d2 : decide ((r : Int) < 3) = false := by simp; omega
  by_cases he3 : r = 3
  · have q3 : ((r : Int) == 3) = true := beq_iff_eq.2 (by omega)
    have HE3 := hide he3
    clear he3
    go_wp2_with (first
      | (go_at_call 175; refine (l1Zero_any _).mono ?_; rintro e w3 ⟨rfl, ht3, hb3⟩)
      | fail)
    go_ret
    have HE : drw (d + 1) deep ρ = (.leaf 1 ⟨#[]⟩, ρ.n) := by rw [drw, if_neg (by rw [← HRE.out]; omega), if_pos (by rw [← HRE.out]; exact HE3.out)]
    exact ⟨_, .leaf 1 ⟨#[]⟩, rfl, ht3, ⟨.inl rfl, empty_ok 1 (by decide)⟩, HPW.out, by rw [HE]; exact HR1.out.keep hb3, HG1.out.trans ((grown_of hb3).but (some R)), by rw [HE]⟩
  have q3 : ((r : Int) == 3) = false := beq_eq_false_iff_ne.2 (by omega)
  by_cases h6 : r < 6
  · have d6 : decide ((r : Int) < 6) = true := by simp; omega
    go_wp2_with (first
      | (go_at_call 128; refine (IH.out ρ.n (deep + 1) R base _ (by omega) (by omega) HR1.out).mono ?_; rintro e w2 ⟨g2, t2, rfl, ht2, hok2, hc2, hr2, hg2, hte2⟩; have HTE2 := hide hte2; clear hte2)
      | (go_at_call 176; refine (l1Succ_any t2 g2 _ ht2).mono ?_; rintro e w3 ⟨rfl, ht3, hb3⟩)
      | fail)
    go_ret
    have HE : drw (d + 1) deep ρ = (.one 2 ⟨#[]⟩ (drw d (deep + 1) ρ.n).1, (drw d (deep + 1) ρ.n).2) := by rw [drw, if_neg (by rw [← HRE.out]; omega), if_neg (by rw [← HRE.out]; exact he3), if_pos (by rw [← HRE.out]; exact h6)]
    exact ⟨_, .one 2 ⟨#[]⟩ t2, rfl, ht3, ⟨rfl, empty_ok 2 (by decide), hok2⟩, by simp only [Tr.cnt]; rw [Nat.pow_succ]; omega, by rw [HE]; exact hr2.keep hb3, (HG1.out.trans hg2).trans ((grown_of hb3).but (some R)), by rw [HE, HTE2.out]⟩
  have d6 : decide ((r : Int) < 6) = false := by simp; omega
  obtain ⟨q, hq, hq2, HQE⟩ : ∃ q : Nat, v.tdiv 8 = (q : Int) ∧ q < 32 ∧ Hid (q = ρ.v / 8) :=
    ⟨ρ.v / 8, by rw [HVE.out, show (8 : Int) = ((8 : Nat) : Int) from rfl, ← Int.ofNat_tdiv], by have := ρ.v_lt; omega, rfl⟩
  obtain ⟨r2, hr2', hrl2⟩ := tmod_nat (v := (q : Int)) (m := 2) (by omega) (by omega)
  have hr2'' : (q : Int).tmod 2 = (r2 : Int) := hr2'
  have HE2 : Hid (r2 = ρ.v / 8 % 2) := by show _ = _; have h1 := hr2'; have h2 := tmod_is (n := q) (m := 2); have h3 := HQE.out; rw [← h3]; omega
  have hwq : IntKind.i64.wrap (q : Int) = (q : Int) := by rw [IntKind.wrap_i64]; omega
  have hw2 : IntKind.i64.wrap (r2 : Int) = (r2 : Int) := by rw [IntKind.wrap_i64]; omega
  have hw3 : IntKind.i64.wrap (3 + (r2 : Int)) = 3 + (r2 : Int) := by rw [IntKind.wrap_i64]; omega
  go_wp2_with fail
  refine (IH.out ρ.n (deep + 1) R base _ (by omega) (by omega) HR1.out).mono ?_
  rintro e w2 ⟨g2, t2, rfl, ht2, hok2, hc2, hrr2, hg2, hte2⟩
  have HTE2 := hide hte2
  clear hte2
  have HT2 := hide ht2
  have HR2 := hide hrr2
  have HG2 := hide hg2
  have HOK2 := hide hok2
  clear ht2 hrr2 hg2 hok2
  go_wp2_with fail
  refine (IH.out _ (deep + 1) R base _ (by omega) (by omega) HR2.out).mono ?_
  rintro e w3 ⟨g3, t3, rfl, ht3, hok3, hc3, hrr3, hg3, hte3⟩
  have HTE3 := hide hte3
  clear hte3
  have HT2' := hide (tree_rd HR2.out hg3 HT2.out)
  have h4a := HT2'.out.cell4
  have h4b := ht3.cell4
  have hs2 := t2.sz_le
  have hs3 := t3.sz_le
  have HT3 := hide ht3
  have HR3 := hide hrr3
  have HG3 := hide hg3
  have HOK3 := hide hok3
  clear ht3 hrr3 hg3 hok3
  go_wp2_with (first
    | (go_at_call 160; refine (make_two (3 + (r2 : Int)) ⟨#[]⟩ g2 t2.sz g3 t3.sz _ h4a hs2 h4b hs3).mono ?_; rintro e w4 ⟨rfl, n, rfl⟩)
    | fail)
  go_ret
  have HE : drw (d + 1) deep ρ = (.two (3 + ((ρ.v / 8 % 2 : Nat) : Int)) ⟨#[]⟩ (drw d (deep + 1) ρ.n).1 (drw d (deep + 1) (drw d (deep + 1) ρ.n).2).1, (drw d (deep + 1) (drw d (deep + 1) ρ.n).2).2) := by
    rw [drw, if_neg (by rw [← HRE.out]; omega), if_neg (by rw [← HRE.out]; exact he3), if_neg (by rw [← HRE.out]; exact h6)]
  exact ⟨_, .two (3 + (r2 : Int)) ⟨#[]⟩ t2 t3, rfl, tree_two HT2'.out HT3.out _ _ n, ⟨by omega, empty_ok _ (by omega), HOK2.out, HOK3.out⟩, by simp only [Tr.cnt]; rw [Nat.pow_succ]; omega, by rw [HE]; exact HR3.out.keep (bel_new w3 _ n), ((HG1.out.trans HG2.out).trans HG3.out).trans ((grown_of (bel_new w3 _ n)).but (some R)), by rw [HE, HTE2.out, HTE3.out, HE2.out]⟩

theorem l1Draw_any : ∀ d, DrawIH d
  | 0 => draw_zero
  | d + 1 => draw_succ d (hide (l1Draw_any d))
end Go.Proofs.YtjkkojefpecbfaaGreat
