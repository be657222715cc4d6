/- The program's behind: an iterator over the constraints that may come behind a side. -/
import Derived.RangeFuncNested
import Derived.RangeFuncBound
import Derived.RangeFuncCalls
import Derived.RangeFuncLeaves
import Derived.Shelf.Abstract
import Derived.Shelf.RegionOpen
import Derived.WalkKit
import Derived.OwnWalkIn
import Derived.TacticsInMore
import Derived.LoopNIn
import Derived.LoopIn
import Derived.Test.YteedainidoldoaaMeetsImpl
import Derived.Test.YteedainidoldoaaSvX
import Derived.Test.YteedainidoldoaaSvC
namespace Go.Proofs.Yteedainidoldoaa
open Go.ChangeShapes Go.WideShapes Go.ChangeAt Go.RowKit Go.Shelf
attribute [local go_sem] Oper.semAt_some

/-- What a round keeps: the cells of some blocks. -/
def KpS (K : Nat → Prop) (A B : World) : Prop := ∀ b, K b → ∀ o v, A.cell? ⟨b, o, none⟩ = some v → B.cell? ⟨b, o, none⟩ = some v
theorem KpS.trans {K : Nat → Prop} {A B C : World} (h1 : KpS K A B) (h2 : KpS K B C) : KpS K A C := fun b hb o v h => h2 b hb o v (h1 b hb o v h)
theorem KpS.refl {K : Nat → Prop} (A : World) : KpS K A A := fun _ _ _ _ h => h
theorem KpS.below {K : Nat → Prop} {A B : World} (h : Below A.heap.size A B) : KpS K A B := fun _ _ _ _ hc => keep_cell h hc
theorem KpS.grown {K : Nat → Prop} {A B : World} {row : Option Nat} (h : A.grownBy B row) (hr : ∀ r, row = some r → ∃ o : Obj, A.heap[r]? = some o ∧ o.isCells = false) : KpS K A B := fun b _ o v hc =>
  h.cell hc (fun e => by
    obtain ⟨ob, h1, h2⟩ := hr b e.symm
    obtain ⟨o2, h3, h4⟩ := cells_of_cell hc
    simp only at h3
    rw [h1] at h3
    cases h3
    rw [h2] at h4
    cases h4)
theorem KpS.cons {K : Nat → Prop} {A B : World} {v : Value} {cs : List Cn} (h : ConsAt A v cs) (hK : ∀ b, b < A.heap.size → K b) (hk : KpS K A B) : ConsAt B v cs := by
  obtain ⟨a, cap, hv, h1, h2, h3⟩ := h
  refine ⟨a, cap, hv, h1, h2, fun h0 => ?_⟩
  obtain ⟨b, off, ha, hc⟩ := h3 h0
  exact ⟨b, off, ha, fun i hi => ⟨hk b (hK b (lt_cell (hc i hi).1)) _ _ (hc i hi).1, hk b (hK b (lt_cell (hc i hi).1)) _ _ (hc i hi).2.1, hk b (hK b (lt_cell (hc i hi).1)) _ _ (hc i hi).2.2⟩⟩
/-- Whether a constraint may come behind a side. -/
def jc (side : Int) (c : Cn) : Bool := decide (side = -1) || decide (side = c.a)
abbrev El (cs : List Cn) (side : Int) := {i : Fin cs.length // jc side cs[i] = true}
/-- What a round is handed: a position and the constraint there. -/
def behV (cs : List Cn) (side : Int) (x : El cs side) : Array Value := #[.int .i64 (x.1.val : Int), .agg #[.int .i64 cs[x.1].a, .int .i64 cs[x.1].n, .int .i64 cs[x.1].b]]
def ixs {cs : List Cn} {side : Int} (ys : List (El cs side)) : List Nat := ys.map (fun x => x.1.val)
/-- The first positions, where a constraint may come. -/
def flt (cs : List Cn) (side : Int) (q : Nat) : List Nat := (List.range q).filter (fun i => jc side (cs.getD i default))
theorem flt_yes {cs : List Cn} {side : Int} {q : Nat} (hq : q < cs.length) (h : jc side cs[q] = true) : flt cs side (q + 1) = flt cs side q ++ [q] := by
  unfold flt
  rw [List.range_succ, List.filter_append]
  simp [List.getD, hq, h]
theorem flt_no {cs : List Cn} {side : Int} {q : Nat} (hq : q < cs.length) (h : jc side cs[q] = false) : flt cs side (q + 1) = flt cs side q := by
  unfold flt
  rw [List.range_succ, List.filter_append]
  simp [List.getD, hq, h]
theorem flt_len (cs : List Cn) (side : Int) (q : Nat) : (flt cs side q).length ≤ q := by
  unfold flt
  exact Nat.le_trans (List.length_filter_le _ _) (by simp)
theorem ixs_len {cs : List Cn} {side : Int} {ys : List (El cs side)} {q : Nat} (h : ixs ys = flt cs side q) : ys.length ≤ q := by
  have := congrArg List.length h
  unfold ixs at this
  rw [List.length_map] at this
  have h2 := flt_len cs side q
  omega
theorem ixs_come {cs : List Cn} {side : Int} {pre : List (El cs side)} {q : Nat} (h : ixs pre = flt cs side q) (hq : q < cs.length) (hj : jc side cs[q] = true) : ixs (pre ++ [⟨⟨q, hq⟩, hj⟩]) = flt cs side (q + 1) := by
  rw [flt_yes hq hj, ← h]
  unfold ixs
  simp
/-- What the iterator looks at: the search, the side, the constraints. -/
structure Bh (K : Nat → Prop) (w0 W : World) (bs bd sb : Nat) (v : Value) (cs : List Cn) (side : Int) : Prop where
  kp : KpS K w0 W
  s : W.cell? ⟨bs, 0, none⟩ = some (.pointer (some ⟨sb, 0, none⟩))
  d : W.cell? ⟨bd, 0, none⟩ = some (.int .i64 side)
theorem Bh.keep {K : Nat → Prop} {w0 A B : World} {bs bd sb : Nat} {v : Value} {cs : List Cn} {side : Int} (h : Bh K w0 A bs bd sb v cs side) (hs : K bs) (hd : K bd) (hk : KpS K A B) : Bh K w0 B bs bd sb v cs side :=
  ⟨h.kp.trans hk, hk _ hs _ _ h.s, hk _ hd _ _ h.d⟩
set_option maxRecDepth 100000 in
set_option maxHeartbeats 4000000 in
theorem beh_in (n : Nat) (hn : 1 ≤ n) (l bs bd sb : Nat) (v : Value) (cs : List Cn) (side : Int) (K : Nat → Prop) (w0 : World) (hm : cs.length ≤ 1000) (h0c : w0.cell? ⟨sb, 1, none⟩ = some v) (hcs : ConsAt w0 v cs) (hK : ∀ b, b < w0.heap.size → K b) (hKs : K bs) (hKd : K bd) (J Jx : List (El cs side) → World → Prop)
    (hY : ∀ pre (x : El cs side) W, J pre W → pre.length < cs.length → YieldAt Fence.wide (n - 1) Try.prog l (behV cs side x) W fun e W' =>
      (e = .returned (.bool true) ∧ J (pre ++ [x]) W' ∧ KpS K W W') ∨ (e = .returned (.bool false) ∧ Jx (pre ++ [x]) W'))
    (W : World) (hB : Bh K w0 W bs bd sb v cs side) (hJ : AbidesFrom W.heap.size J) (h0 : J [] W) :
    CallsIn Fence.wide n Try.prog 52 #[.func (.yield l) #[] #[], .pointer (some ⟨bs, 0, none⟩), .pointer (some ⟨bd, 0, none⟩)] W fun e W' => (∃ v, e = .returned v) ∧
      ((∃ ys : List (El cs side), ixs ys = flt cs side cs.length ∧ J ys W') ∨ (∃ pre : List (El cs side), (∃ q, q ≤ cs.length ∧ ixs pre = flt cs side q) ∧ Jx pre W')) := by
  have HJ := hide hJ
  have HY := hide hY
  have HB := hide hB
  have HCS := hide hcs
  have HK := hide hK
  have c1 := hB.kp _ (hK _ (lt_cell h0c)) _ _ h0c
  have cs0 := hB.s
  have hbl := lt_cell cs0
  have hsl := lt_cell c1
  obtain ⟨a2, cap2, hv2, hlc2, hcm2, hc2⟩ := hcs
  unfold maxLen at hcm2
  clear hJ hY hB hc2 hK
  subst hv2
  refine callsIn_of_wp Try.func52 rfl trivial ?_ rfl
  simp only [Try.ntmps52, List.size_toArray, List.length_cons, List.length_nil, Nat.reduceAdd, Nat.reduceSub, Array.replicate_succ, Array.replicate_zero, List.push_toArray, List.append_toArray, List.nil_append, List.cons_append]
  gi_wp2
  gi_loopw [11] (fun r wr => ∃ (q : Nat) (pre : List (El cs side)), q ≤ cs.length ∧ r = .int .i64 q ∧ Hid (ixs pre = flt cs side q) ∧ Hid (J pre wr) ∧ Hid (Bh K w0 wr bs bd sb (.slice a2 cs.length cap2) cs side)) (fun r _ => cs.length - (intOf r).toNat)
  case atStart => exact ⟨0, [], Nat.zero_le _, rfl, rfl, h0, HB⟩
  case round =>
    clear HB cs0 c1 hbl hsl
    obtain ⟨q, pre, hq, rfl, HPR, HJS, HBH⟩ := hrel
    by_cases hlt : q < cs.length
    · have hlt' : (q : Int) < cs.length := by omega
      have HCW := hide (KpS.cons HCS.out HK.out HBH.out.kp)
      obtain ⟨a3, cap3, e3, _, _, hc3⟩ := HCW.out
      obtain ⟨b, off, ha3, hc⟩ := hc3 (by omega)
      cases e3
      subst ha3
      obtain ⟨c1, c2, c3⟩ := hc q hlt
      have hbl := lt_cell c1
      clear hc hc3
      have HCC : Hid (cs[q] = cs[q]) := rfl
      obtain ⟨ca, cn, cb, HC⟩ : ∃ ca cn cb, Hid (cs[q].a = ca ∧ cs[q].n = cn ∧ cs[q].b = cb) := ⟨_, _, _, rfl, rfl, rfl⟩
      rw [HC.out.1] at c1
      rw [HC.out.2.1] at c2
      rw [HC.out.2.2] at c3
      obtain ⟨W4, hW4⟩ : ∃ W4, W4 = wr.alloc (.cells #[.int .i64 ca, .int .i64 cn, .int .i64 cb] 42) := ⟨_, rfl⟩
      have hb4 : Below wr.heap.size wr W4 := by rw [hW4]; exact bel_alloc (Below.refl _ _) _
      have hh4 : W4.heap[wr.heap.size]? = some (.cells #[.int .i64 ca, .int .i64 cn, .int .i64 cb] 42 (0, 0)) := by
        rw [hW4]
        exact heap_alloc_new wr _
      have HB4 := hide (HBH.out.keep hKs hKd (KpS.below hb4))
      have s4 := HB4.out.s
      have d4 := HB4.out.d
      have sl4 := lt_cell s4
      have dl4 := lt_cell d4
      have s0 := HBH.out.s
      have d0 := HBH.out.d
      have sl0 := lt_cell s0
      have dl0 := lt_cell d0
      have c4 : W4.cell? ⟨wr.heap.size, 0, none⟩ = some (.int .i64 ca) := by rw [hW4, World.cell?_alloc_new]; rfl
      have l4 := lt_cell c4
      have HJ4 := hide (HJ.out _ wr W4 none HJS.out (grown_of hb4) (fun r e => by cases e))
      clear HCC HJS HCW
      by_cases hj : jc side cs[q] = true
      · have HCM := hide (ixs_come HPR.out hlt hj)
        obtain ⟨fn, tmps, assign, body, hy, hR⟩ := HY.out pre ⟨⟨q, hlt⟩, hj⟩ W4 HJ4.out (by have := ixs_len HPR.out; omega)
        unfold behV at hy
        dsimp only at hy
        have e1 : cs[(⟨q, hlt⟩ : Fin cs.length)].a = ca := HC.out.1
        have e2 : cs[(⟨q, hlt⟩ : Fin cs.length)].n = cn := HC.out.2.1
        have e3 : cs[(⟨q, hlt⟩ : Fin cs.length)].b = cb := HC.out.2.2
        rw [e1, e2, e3] at hy
        have hj2 := hj
        unfold jc at hj2
        rw [HC.out.1] at hj2
        clear e1 e2 e3 hb4 hh4
        by_cases hm1 : side = -1
        · clear hj2
          subst hm1
          gi_wp2
          rw [← hW4]
          clear hW4
          rw [hy]
          gi_wp2
          refine hR.mono ?_
          rintro e W3 (⟨rfl, hJ3, hk3⟩ | ⟨rfl, hJx3⟩)
          · have HB3 := hide (HB4.out.keep hKs hKd hk3)
            have HJ3 := hide hJ3
            clear hR hy hJ3 hk3 HB4 s4 d4 sl4 dl4 c4 l4
            gi_wp2
            go_roundw
            case rel => exact ⟨q + 1, _, hlt, by go_num, HCM.out, HJ3, HB3⟩
            case measure => simp [intOf]; omega
          · gi_wp2
            refine bodyPost_ret (results_none rfl _ _ _) rfl ?_
            exact ⟨⟨_, rfl⟩, .inr ⟨_, ⟨q + 1, by omega, HCM.out⟩, hJx3⟩⟩
        · have hsa : side = ca := by simpa [hm1] using hj2
          clear hj2
          subst hsa
          gi_wp2
          rw [← hW4]
          clear hW4
          rw [hy]
          gi_wp2
          refine hR.mono ?_
          rintro e W3 (⟨rfl, hJ3, hk3⟩ | ⟨rfl, hJx3⟩)
          · have HB3 := hide (HB4.out.keep hKs hKd hk3)
            have HJ3 := hide hJ3
            clear hR hy hJ3 hk3 HB4 s4 d4 sl4 dl4 c4 l4
            gi_wp2
            go_roundw
            case rel => exact ⟨q + 1, _, hlt, by go_num, HCM.out, HJ3, HB3⟩
            case measure => simp [intOf]; omega
          · gi_wp2
            refine bodyPost_ret (results_none rfl _ _ _) rfl ?_
            exact ⟨⟨_, rfl⟩, .inr ⟨_, ⟨q + 1, by omega, HCM.out⟩, hJx3⟩⟩
      · have hj1 : jc side cs[q] = false := by simpa using hj
        have HCM : Hid (ixs pre = flt cs side (q + 1)) := by show _ = _; rw [flt_no hlt hj1]; exact HPR.out
        have hj2 := hj1
        unfold jc at hj2
        rw [HC.out.1] at hj2
        have hm1 : ¬ side = -1 := by intro e; rw [e] at hj2; simp at hj2
        have hsa : ¬ side = ca := by intro e; rw [e] at hj2; simp at hj2
        have q1 : (side == -1) = false := beq_eq_false_iff_ne.2 hm1
        have q2 : (side == ca) = false := beq_eq_false_iff_ne.2 hsa
        clear hj hj1 hj2 hb4 hh4
        gi_wp2
        refine ⟨(fun f e => by cases e), ?_⟩
        gi_wp2
        rw [← hW4]
        clear hW4
        go_roundw
        case rel => exact ⟨q + 1, pre, hlt, by go_num, HCM, HJ4, HB4⟩
        case measure => simp [intOf]; omega
    · obtain rfl : q = cs.length := by omega
      have hlt' : ¬ ((cs.length : Int) < cs.length) := by omega
      gi_wp2
      go_end0
      exact ⟨⟨_, rfl⟩, .inl ⟨_, HPR.out, HJS.out⟩⟩
end Go.Proofs.Yteedainidoldoaa
