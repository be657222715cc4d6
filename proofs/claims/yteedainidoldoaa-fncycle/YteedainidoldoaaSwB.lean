/- The program's behind as a value, and sum. -/
import Derived.Test.YteedainidoldoaaSwA
namespace Go.Proofs.Yteedainidoldoaa
open Go.ChangeShapes Go.WideShapes Go.ChangeAt Go.RowKit Go.Shelf
attribute [local go_sem] Oper.semAt_some

theorem behind_any (sb : Nat) (side : Int) (w : World) : Calls Try.prog 49 #[.pointer (some ⟨sb, 0, none⟩), .int .i64 side] w fun e w' => e = .returned (.func (.func 52) #[] #[.pointer (some ⟨w.heap.size, 0, none⟩), .pointer (some ⟨w.heap.size + 1, 0, none⟩)]) ∧
    w' = (w.alloc (.cells #[.pointer (some ⟨sb, 0, none⟩)] 69)).alloc (.cells #[.int .i64 side] 3) := by
  have hmf : ∀ (fn : Fn) (first cap : Array Value) (w : World), (Instr.makeFunc fn first cap).run Try.prog w = .ok (.func fn first cap) w := fun _ _ _ _ => rfl
  go_enter Try.func49, Try.ntmps49
  go_wp2_with fail
  go_ret
  exact ⟨by simp, rfl⟩
/-- What behind hands back is a value that goes through the constraints that may come. -/
theorem beh_stops (n : Nat) (hn : 1 ≤ n) (bs bd sb : Nat) (v : Value) (cs : List Cn) (side : Int) (K : Nat → Prop) (w0 w : World) (hm : cs.length ≤ 1000) (h0c : w0.cell? ⟨sb, 1, none⟩ = some v) (hcs : ConsAt w0 v cs) (hK : ∀ b, b < w0.heap.size → K b) (hKs : K bs) (hKd : K bd) (hB : Bh K w0 w bs bd sb v cs side) :
    SeqStopsK Fence.wide n Try.prog 52 #[.pointer (some ⟨bs, 0, none⟩), .pointer (some ⟨bd, 0, none⟩)] (behV cs side) (KpS K) (fun ys => ixs ys = flt cs side cs.length) (fun pre => ∃ q, q ≤ cs.length ∧ ixs pre = flt cs side q) cs.length w := fun l J Jx W hW hJ _ hY h0 =>
  beh_in n hn l bs bd sb v cs side K w0 hm h0c hcs hK hKs hKd J Jx hY W (hB.keep hKs hKd (KpS.below hW)) hJ h0
theorem jn_jc {side : Int} {c : Cn} (hs : -1 ≤ side) (hc : -1 ≤ c.a) : jn (side + 1).toNat (ctC c) = jc side c := by
  unfold jn jc ctC
  simp only
  rw [Bool.eq_iff_iff]
  simp
  omega
/-- Going through what the iterator hands over is going through all of them that may come. -/
theorem fold_ixs {cs : List Cn} {side : Int} {ys : List (El cs side)} (h : ixs ys = flt cs side cs.length) (g : Int → Cn → Int) (a : Int) :
    ys.foldl (fun acc x => g acc cs[x.1]) a = cs.foldl (fun acc c => if jc side c = true then g acc c else acc) a := by
  have e1 : ys.foldl (fun acc x => g acc cs[x.1]) a = (ixs ys).foldl (fun acc i => g acc (cs.getD i default)) a := by
    unfold ixs
    rw [List.foldl_map]
    congr 1
    funext acc x
    simp [List.getD, x.1.isLt]
  rw [e1, h]
  unfold flt
  rw [List.foldl_filter]
  have e2 : (List.range cs.length).map (fun i => cs.getD i default) = cs := by
    refine List.ext_getElem (by simp) (fun i h1 h2 => ?_)
    simp [List.getD, h2]
  have e3 : ∀ (f : Int → Cn → Int), (List.range cs.length).foldl (fun acc i => f acc (cs.getD i default)) a = cs.foldl f a := fun f => by
    conv => rhs; rw [← e2]
    rw [List.foldl_map]
  exact e3 (fun acc c => if jc side c = true then g acc c else acc)
/-- The greatest sum so far. -/
def grt (cs : List Cn) (k h : Nat) (side : Int) (pre : List (El cs side)) : Int := pre.foldl (fun acc x => mxI acc (cs[x.1].n + pb (cs.map ctC) k (cs[x.1].b + 1).toNat h)) noW
theorem grt_snoc (cs : List Cn) (k h : Nat) (side : Int) (pre : List (El cs side)) (x : El cs side) : grt cs k h side (pre ++ [x]) = mxI (grt cs k h side pre) (cs[x.1].n + pb (cs.map ctC) k (cs[x.1].b + 1).toNat h) := by
  unfold grt
  rw [List.foldl_append]
  rfl
theorem foldl_same {α β : Type} {f g : β → α → β} : ∀ (l : List α) (a : β), (∀ x ∈ l, ∀ b, f b x = g b x) → l.foldl f a = l.foldl g a
  | [], _, _ => rfl
  | x :: l, a, h => by
    rw [List.foldl_cons, List.foldl_cons, h x (List.mem_cons_self ..) a]
    exact foldl_same l _ (fun y hy => h y (List.mem_cons_of_mem _ hy))
theorem grt_all {cs : List Cn} {side : Int} {ys : List (El cs side)} (h : ixs ys = flt cs side cs.length) (hs : -1 ≤ side) (hc : ∀ c ∈ cs, -1 ≤ c.a) (k hm : Nat) : grt cs k hm side ys = pb (cs.map ctC) (k + 1) (side + 1).toNat hm := by
  unfold grt
  rw [fold_ixs h (fun acc c => mxI acc (c.n + pb (cs.map ctC) k (c.b + 1).toNat hm))]
  conv => rhs; unfold pb
  rw [List.foldl_map]
  refine foldl_same _ _ (fun c hcm b => ?_)
  rw [jn_jc hs (hc c hcm)]
  rfl
theorem grt_low (cs : List Cn) (k h : Nat) (side : Int) : ∀ pre : List (El cs side), noW ≤ grt cs k h side pre := by
  have go : ∀ (pre : List (El cs side)) (a : Int), a ≤ pre.foldl (fun acc x => mxI acc (cs[x.1].n + pb (cs.map ctC) k (cs[x.1].b + 1).toNat h)) a := by
    intro pre
    induction pre with
    | nil => intro a; exact Int.le_refl _
    | cons x l ih => intro a; rw [List.foldl_cons]; exact Int.le_trans (mxI_l _ _) (ih _)
  exact fun pre => go pre noW
/-- What is there when sum begins to go through. -/
structure SmI (cs : List Cn) (k H : Nat) (side : Int) (w W0 W : World) (pre : List (El cs side)) : Prop where
  g : Boxed W (w.heap.size + 3) 3 (.int .i64 (grt cs k H side pre))
  kp : KpS (fun b => b ≠ w.heap.size + 3) W0 W
  bel : Below w.heap.size w W
  size : W0.heap.size ≤ W.heap.size
theorem kps_own {β : Type} (K : Nat → Prop) (W0 : World) (B : Nat) : OwnFrom B (fun (_ : β) W => KpS K W0 W) := fun _ _ _ _ hs hg hr => hs.trans (KpS.grown hg (fun r e => (hr r e).2))
theorem smI_own (cs : List Cn) (k H : Nat) (side : Int) (w W0 : World) (B : Nat) (hB : w.heap.size ≤ B) : OwnFrom B (fun pre W => SmI cs k H side w W0 W pre) := fun _ A B2 row hs hg hr =>
  ⟨boxed_own _ 3 (fun _ : Unit => _) () A B2 row hs.g hg (fun r e => (hr r e).2), hs.kp.trans (KpS.grown hg (fun r e => (hr r e).2)), ownFrom_below (β := Unit) (Nat.le_refl _) hB () A B2 row hs.bel hg hr, Nat.le_trans hs.size hg.size⟩
set_option maxRecDepth 100000 in
set_option maxHeartbeats 8000000 in
theorem sum_any (sb n : Nat) (v : Value) (cs : List Cn) (L l : Nat) (from_ home : Int) (w : World) (h : Cy w sb n v cs L) (hl : l ≤ L) (hL : L ≤ 31) (hn : n ≤ 30) (hok : consB n cs = true) (f0 : -1 ≤ from_) (f1 : from_ < n) (h0 : -1 ≤ home) (h1 : home < n) :
    Calls Try.prog 48 #[.pointer (some ⟨sb, 0, none⟩), .int .i64 l, .int .i64 from_, .int .i64 home] w fun e w' => e = .returned (.int .i64 (pb (cs.map ctC) l (from_ + 1).toNat (home + 1).toNat)) ∧ Below w.heap.size w w' := by
  have HCY := hide h
  obtain ⟨⟨g1, g2, g3⟩, g4⟩ := consB_yes hok
  have HS4 := hide g4
  have c0 := h.cn
  have hsb := lt_cell c0
  clear h hok g4 c0
  by_cases hl0 : l = 0
  · subst hl0
    have HB3 : Hid (∀ o1 o2 o3, Below w.heap.size w (((w.alloc o1).alloc o2).alloc o3)) := fun o1 o2 o3 => bel_alloc (bel_alloc (bel_alloc (Below.refl _ _) _) _) _
    have HB4 : Hid (∀ o1 o2 o3 o4, Below w.heap.size w ((((w.alloc o1).alloc o2).alloc o3).alloc o4)) := fun o1 o2 o3 o4 => bel_alloc (bel_alloc (bel_alloc (bel_alloc (Below.refl _ _) _) _) _) _
    by_cases hf : from_ = -1
    · have HR : Hid (pb (cs.map ctC) 0 (from_ + 1).toNat (home + 1).toNat = 0) := by
        show _ = _
        unfold pb
        rw [if_pos (.inl (by omega))]
      rw [HR.out]
      subst hf
      go_enter Try.func48, Try.ntmps48
      go_wp2_with fail
      go_ret
      exact ⟨rfl, HB3.out _ _ _⟩
    · by_cases hh : from_ = home
      · subst hh
        have HR : Hid (pb (cs.map ctC) 0 (from_ + 1).toNat (from_ + 1).toNat = 0) := by
          show _ = _
          unfold pb
          rw [if_pos (.inr rfl)]
        rw [HR.out]
        go_enter Try.func48, Try.ntmps48
        go_wp2_with fail
        go_ret
        exact ⟨rfl, HB3.out _ _ _⟩
      · have HR : Hid (pb (cs.map ctC) 0 (from_ + 1).toNat (home + 1).toNat = -4611686018427387904) := by
          show _ = _
          unfold pb
          rw [if_neg (by omega)]
          rfl
        rw [HR.out]
        have q1 : (from_ == -1) = false := beq_eq_false_iff_ne.2 hf
        have q2 : (from_ == home) = false := beq_eq_false_iff_ne.2 hh
        go_enter Try.func48, Try.ntmps48
        go_wp2_with fail
        go_ret
        exact ⟨rfl, HB4.out _ _ _ _⟩
  · obtain ⟨k, rfl⟩ : ∃ k, l = k + 1 := ⟨l - 1, by omega⟩
    refine (callsIn_wide (n := 3)).1 ?_
    refine callsIn_of_wp_marks Try.func48 rfl trivial ?_ rfl
    simp only [Try.ntmps48, List.size_toArray, List.length_cons, List.length_nil, Nat.reduceAdd, Nat.reduceSub, Array.replicate_succ, Array.replicate_zero, List.push_toArray, List.append_toArray, List.nil_append, List.cons_append]
    have hk0 : ¬ ((k + 1 : Nat) : Int) = 0 := by omega
    have hk1 : (0 : Int) < ((k + 1 : Nat) : Int) := by omega
    gi_wp2_with (first | (refine ⟨trivial, ?_⟩; gi_at_call 49; refine (callsIn_wide.2 (behind_any _ _ _)).mono ?_; rintro e w' ⟨rfl, rfl⟩) | (gi_at_call 49; refine (callsIn_wide.2 (behind_any _ _ _)).mono ?_; rintro e w' ⟨rfl, rfl⟩))
    obtain ⟨W0, hW0⟩ : ∃ W0, W0 = ((((((w.alloc (.cells #[.pointer (some ⟨sb, 0, none⟩)] 69)).alloc (.cells #[.int .i64 ((k : Int) + 1)] 3)).alloc (.cells #[.int .i64 home] 3)).alloc (.cells #[.int .i64 (-4611686018427387904)] 3)).alloc (.cells #[.pointer (some ⟨sb, 0, none⟩)] 69)).alloc (.cells #[.int .i64 from_] 3)) := ⟨_, rfl⟩
    rw [← hW0]
    have hB0 : Below w.heap.size w W0 := by rw [hW0]; exact bel_alloc (bel_alloc (bel_alloc (bel_alloc (bel_alloc (bel_alloc (Below.refl _ _) _) _) _) _) _) _
    have hsz : W0.heap.size = w.heap.size + 6 := by rw [hW0]; simp
    have b0 : Boxed W0 w.heap.size 69 (.pointer (some ⟨sb, 0, none⟩)) := by rw [hW0]; exact (((((Boxed.new w 69 _).alloc _).alloc _).alloc _).alloc _).alloc _
    have b1 : Boxed W0 (w.heap.size + 1) 3 (.int .i64 ((k : Int) + 1)) := by
      have h := Boxed.new (w.alloc (.cells #[.pointer (some ⟨sb, 0, none⟩)] 69)) 3 (.int .i64 ((k : Int) + 1))
      rw [World.size_alloc] at h
      rw [hW0]; exact (((h.alloc _).alloc _).alloc _).alloc _
    have b2 : Boxed W0 (w.heap.size + 2) 3 (.int .i64 home) := by
      have h := Boxed.new ((w.alloc (.cells #[.pointer (some ⟨sb, 0, none⟩)] 69)).alloc (.cells #[.int .i64 ((k : Int) + 1)] 3)) 3 (.int .i64 home)
      rw [World.size_alloc, World.size_alloc] at h
      rw [hW0]; exact ((h.alloc _).alloc _).alloc _
    have b3 : Boxed W0 (w.heap.size + 3) 3 (.int .i64 (-4611686018427387904)) := by
      have h := Boxed.new (((w.alloc (.cells #[.pointer (some ⟨sb, 0, none⟩)] 69)).alloc (.cells #[.int .i64 ((k : Int) + 1)] 3)).alloc (.cells #[.int .i64 home] 3)) 3 (.int .i64 (-4611686018427387904))
      rw [World.size_alloc, World.size_alloc, World.size_alloc] at h
      rw [hW0]; exact (h.alloc _).alloc _
    have b4 : Boxed W0 (w.heap.size + 4) 69 (.pointer (some ⟨sb, 0, none⟩)) := by
      have h := Boxed.new ((((w.alloc (.cells #[.pointer (some ⟨sb, 0, none⟩)] 69)).alloc (.cells #[.int .i64 ((k : Int) + 1)] 3)).alloc (.cells #[.int .i64 home] 3)).alloc (.cells #[.int .i64 (-4611686018427387904)] 3)) 69 (.pointer (some ⟨sb, 0, none⟩))
      rw [World.size_alloc, World.size_alloc, World.size_alloc, World.size_alloc] at h
      rw [hW0]; exact h.alloc _
    have b5 : Boxed W0 (w.heap.size + 5) 3 (.int .i64 from_) := by
      have h := Boxed.new (((((w.alloc (.cells #[.pointer (some ⟨sb, 0, none⟩)] 69)).alloc (.cells #[.int .i64 ((k : Int) + 1)] 3)).alloc (.cells #[.int .i64 home] 3)).alloc (.cells #[.int .i64 (-4611686018427387904)] 3)).alloc (.cells #[.pointer (some ⟨sb, 0, none⟩)] 69)) 3 (.int .i64 from_)
      rw [World.size_alloc, World.size_alloc, World.size_alloc, World.size_alloc, World.size_alloc] at h
      rw [hW0]; exact h
    clear hW0
    have hH : ∀ b, b < w.heap.size → b ≠ w.heap.size + 3 := fun b hb => by omega
    refine wpIn_rangeFunc_ownH rfl (by omega) (gf := 52) (lb := #[.pointer (some ⟨w.heap.size + 4, 0, none⟩), .pointer (some ⟨w.heap.size + 5, 0, none⟩)]) rfl trivial (enters_of Try.func52 (by kernel_rfl) rfl)
      (beh_stops (3 - 1) (by omega) (w.heap.size + 4) (w.heap.size + 5) sb v cs from_ (fun b => b ≠ w.heap.size + 3) w W0 (by omega) HCY.out.cc HCY.out.cons hH (by omega) (by omega) ⟨KpS.below hB0, b4.cell, b5.cell⟩) (fun h1 h2 => KpS.trans h1 h2) (fun W l o o' _ hl ho _ => KpS.grown (grownBy_putObj' W l o') (fun r e => by cases e; exact ⟨o, hl, ho⟩)) (Below.refl _ _) (fun _ => rfl)
      (fun pre W => SmI cs k (home + 1).toNat from_ w W0 W pre)
      (fun _ _ _ => False)
      (smI_own cs k _ from_ w W0 _ (by omega))
      (fun _ _ _ _ _ hs _ _ => hs)
      ⟨b3, KpS.refl _, hB0, Nat.le_refl _⟩
      (fun x a' W => ∃ Bx, w.heap.size + 5 < Bx ∧ W.heap[Bx]? = some (.cells #[.int .i64 cs[x.1].a, .int .i64 cs[x.1].n, .int .i64 cs[x.1].b] 42 (0, 0)) ∧ a' = ({ tmps := (.pointer (some ⟨sb, 0, none⟩) :: .int .i64 ((k : Int) + 1) :: .int .i64 from_ :: .int .i64 home :: .pointer (some ⟨w.heap.size, 0, none⟩) :: .pointer (some ⟨w.heap.size + 1, 0, none⟩) :: undef :: .pointer (some ⟨w.heap.size + 1 + 1, 0, none⟩) :: .int .i64 0 :: .pointer (some ⟨w.heap.size + 1 + 1 + 1, 0, none⟩) :: undef :: .pointer (some ⟨Bx, 0, none⟩) :: .int .i64 ((k : Int) + 1) :: .bool ((k : Int) + 1 == 0) :: .bool ((k : Int) + 1 == 0) :: undef :: undef :: undef :: undef :: undef :: undef :: undef :: .bool false :: .int .i64 ((k : Int) + 1) :: .bool true :: .pointer (some ⟨sb, 0, none⟩) :: .int .i64 from_ :: .func (.func 52) #[] #[.pointer (some ⟨w.heap.size + 1 + 1 + 1 + 1, 0, none⟩), .pointer (some ⟨w.heap.size + 1 + 1 + 1 + 1 + 1, 0, none⟩)] :: .int .i64 (x.1.val : Int) :: .agg #[.int .i64 cs[x.1].a, .int .i64 cs[x.1].n, .int .i64 cs[x.1].b] :: undef :: undef :: undef :: undef :: undef :: undef :: undef :: undef :: undef :: undef :: undef :: undef :: undef :: []).toArray, defers := [] } : Act))
      (fun x a' s A B row hs hg hr => by
        obtain ⟨Bx, h1, h2, h3⟩ := hs
        refine ⟨Bx, h1, (hg.block Bx (Array.getElem?_eq_some_iff.1 h2).1 (fun e => ?_)).trans h2, h3⟩
        obtain ⟨_, ob, h4, h5⟩ := hr Bx e.symm
        rw [h2] at h4
        cases h4
        cases h5) ?assign ?body ?done ?stop
    case assign =>
      rintro l pre x W K hI hK
      have HI := hide hI
      have hb4 : Below W.heap.size W (W.alloc (.cells #[.int .i64 cs[x.1].a, .int .i64 cs[x.1].n, .int .i64 cs[x.1].b] 42)) := bel_alloc (Below.refl _ _) _
      have hg4 := (KeepsOthers.alloc W (.cells #[.int .i64 cs[x.1].a, .int .i64 cs[x.1].n, .int .i64 cs[x.1].b] 42)).from W0.heap.size
      unfold behV
      gi_wp2
      exact hK _ _ hg4 (KpS.below hb4) (smI_own cs k _ from_ w W0 w.heap.size (Nat.le_refl _) pre W _ none HI.out (grown_of hb4) (fun r e => by cases e)) ⟨W.heap.size, by have := HI.out.size; omega, heap_alloc_new W _, rfl⟩
    case body =>
      rintro l pre x a' W hl ⟨r, hr⟩ hI ⟨Bx, hBx, bX, rfl⟩ hlt
      have HI := hide hI
      obtain ⟨s1, s2, s3, s4, s5, s6⟩ := HS4.out x.1.val x.1.isLt
      have hX1 : W.cell? ⟨Bx, 1, none⟩ = some (.int .i64 cs[x.1].n) := by rw [Lib.cell_of_heap bX]; rfl
      have hX2 : W.cell? ⟨Bx, 2, none⟩ = some (.int .i64 cs[x.1].b) := by rw [Lib.cell_of_heap bX]; rfl
      have HG : Hid (grt cs k (home + 1).toNat from_ (pre ++ [x]) = mxI (grt cs k (home + 1).toNat from_ pre) (cs[x.1].n + pb (cs.map ctC) k (cs[x.1].b + 1).toNat (home + 1).toNat)) := grt_snoc _ _ _ _ _ _
      have hgc := hI.g.cell
      have HGL := grt_low cs k (home + 1).toNat from_ pre
      obtain ⟨q1, q2⟩ := pb_rng (cs := cs.map ctC) (by
        intro c hc
        obtain ⟨d, hd, rfl⟩ := List.mem_map.1 hc
        obtain ⟨j, hj, rfl⟩ := List.getElem_of_mem hd
        exact (HS4.out j hj).2.2.2.2) (k := k) (cs[x.1].b + 1).toNat (home + 1).toNat (by omega)
      have HBE := hide (best_any sb n v cs L k cs[x.1].b home W.drew ((HCY.out.keep HI.out.bel).keep (Below.refl _ _).drew) (by omega) hL hn s3 s4 h0 h1)
      have e1 : cs[x.1].n = cs[x.1.val].n := rfl
      have e2 : cs[x.1].b = cs[x.1.val].b := rfl
      rw [e1] at hX1 HG
      rw [e2] at hX2 HG HBE q1 q2
      simp only [e1, e2] at bX ⊢
      clear e1 e2
      generalize cs[x.1.val].n = cn at *
      generalize cs[x.1.val].b = cb at *
      generalize cs[x.1.val].a = ca at *
      generalize pb (cs.map ctC) k (cb + 1).toNat (home + 1).toNat = q at *
      obtain ⟨g, hg⟩ : ∃ g, g = grt cs k (home + 1).toNat from_ pre := ⟨_, rfl⟩
      rw [← hg] at hgc HG HGL
      have hwy : IntKind.i64.wrap (cn + q) = cn + q := by unfold noW at q1; rw [IntKind.wrap_i64]; omega
      have hwk : IntKind.i64.wrap (k : Int) = (k : Int) := by rw [IntKind.wrap_i64]; omega
      have hS0 : W.drew.cell? ⟨w.heap.size, 0, none⟩ = some (.pointer (some ⟨sb, 0, none⟩)) ∧ W.drew.cell? ⟨w.heap.size + 1, 0, none⟩ = some (.int .i64 ((k : Int) + 1)) ∧ W.drew.cell? ⟨w.heap.size + 1 + 1, 0, none⟩ = some (.int .i64 home) ∧ W.drew.cell? ⟨w.heap.size + 1 + 1 + 1, 0, none⟩ = some (.int .i64 g) ∧ W.drew.cell? ⟨Bx, 1, none⟩ = some (.int .i64 cn) ∧ W.drew.cell? ⟨Bx, 2, none⟩ = some (.int .i64 cb) := ⟨HI.out.kp _ (by omega) _ _ b0.cell, HI.out.kp _ (by omega) _ _ b1.cell, HI.out.kp _ (by omega) _ _ b2.cell, hgc, hX1, hX2⟩
      clear hI hgc hX1 hX2 hr hg HGL q1 q2 s1 s2 s3 s4 s5 s6
      refine wpIn_block ?_
      refine region_round (L := 12) (S := fun w' : World => w'.cell? ⟨w.heap.size, 0, none⟩ = some (.pointer (some ⟨sb, 0, none⟩)) ∧ w'.cell? ⟨w.heap.size + 1, 0, none⟩ = some (.int .i64 ((k : Int) + 1)) ∧ w'.cell? ⟨w.heap.size + 1 + 1, 0, none⟩ = some (.int .i64 home) ∧ w'.cell? ⟨w.heap.size + 1 + 1 + 1, 0, none⟩ = some (.int .i64 g) ∧ w'.cell? ⟨Bx, 1, none⟩ = some (.int .i64 cn) ∧ w'.cell? ⟨Bx, 2, none⟩ = some (.int .i64 cb)) (by kernel_rfl) (by kernel_rfl) (by intro h; obtain ⟨_, _, h⟩ := h; exact h) ?_
      refine anyE_take2 0 (v := ?v1) rfl (by kernel_rfl) (by kernel_rfl) (by kernel_rfl) (by kernel_rfl) (fun _ _ _ h => h) (by rfl) ?hy1 hS0 ?rest1
      case hy1 =>
        intro wx hx
        obtain ⟨m0, m1, m2, m3, m4, m5⟩ := hx
        go_simp
        try rfl
      case rest1 =>
      intro K2 hK
      go_simp
      refine hK.out _ ?_
      clear hK K2
      refine anyE_take2 1 (v := ?v2) rfl (by kernel_rfl) (by kernel_rfl) (by kernel_rfl) (by kernel_rfl) (fun _ _ _ h => h) (by rfl) ?hy2 hS0 ?rest2
      case hy2 =>
        intro wx hx
        obtain ⟨m0, m1, m2, m3, m4, m5⟩ := hx
        go_simp
        try rfl
      case rest2 =>
      intro K2 hK
      go_simp
      refine hK.out _ ?_
      clear hK K2
      refine anyE_take2 2 (v := ?v3) rfl (by kernel_rfl) (by kernel_rfl) (by kernel_rfl) (by kernel_rfl) (fun _ _ _ h => h) (by rfl) ?hy3 hS0 ?rest3
      case hy3 =>
        intro wx hx
        obtain ⟨m0, m1, m2, m3, m4, m5⟩ := hx
        go_simp
        try rfl
      case rest3 =>
      intro K2 hK
      go_simp
      refine hK.out _ ?_
      clear hK K2
      refine anyE_take2 3 (v := ?v4) rfl (by kernel_rfl) (by kernel_rfl) (by kernel_rfl) (by kernel_rfl) (fun _ _ _ h => h) (by rfl) ?hy4 hS0 ?rest4
      case hy4 =>
        intro wx hx
        obtain ⟨m0, m1, m2, m3, m4, m5⟩ := hx
        go_simp
        try rfl
      case rest4 =>
      intro K2 hK
      go_simp
      refine hK.out _ ?_
      clear hK K2
      refine anyE_take2 4 (v := ?v5) rfl (by kernel_rfl) (by kernel_rfl) (by kernel_rfl) (by kernel_rfl) (fun _ _ _ h => h) (by rfl) ?hy5 hS0 ?rest5
      case hy5 =>
        intro wx hx
        obtain ⟨m0, m1, m2, m3, m4, m5⟩ := hx
        go_simp
        try rfl
      case rest5 =>
      intro K2 hK
      go_simp
      refine hK.out _ ?_
      clear hK K2
      refine anyE_take2 5 (v := ?v6) rfl (by kernel_rfl) (by kernel_rfl) (by kernel_rfl) (by kernel_rfl) (fun _ _ _ h => h) (by rfl) ?hy6 hS0 ?rest6
      case hy6 =>
        intro wx hx
        obtain ⟨m0, m1, m2, m3, m4, m5⟩ := hx
        go_simp
        try rfl
      case rest6 =>
      intro K2 hK
      go_simp
      refine hK.out _ ?_
      clear hK K2
      refine anyE_take2 6 (v := ?v7) rfl (by kernel_rfl) (by kernel_rfl) (by kernel_rfl) (by kernel_rfl) (fun _ _ _ h => h) (by rfl) ?hy7 hS0 ?rest7
      case hy7 =>
        intro wx hx
        obtain ⟨m0, m1, m2, m3, m4, m5⟩ := hx
        go_simp
        try rfl
      case rest7 =>
      intro K2 hK
      go_simp
      refine hK.out _ ?_
      clear hK K2
      refine anyE_take2 7 (v := ?v8) rfl (by kernel_rfl) (by kernel_rfl) (by kernel_rfl) (by kernel_rfl) (fun _ _ _ h => h) (by rfl) ?hy8 hS0 ?rest8
      case hy8 =>
        intro wx hx
        obtain ⟨m0, m1, m2, m3, m4, m5⟩ := hx
        go_simp
        try rfl
      case rest8 =>
      intro K2 hK
      go_simp
      refine hK.out _ ?_
      clear hK K2
      refine anyE_take2 8 (v := ?v9) rfl (by kernel_rfl) (by kernel_rfl) (by kernel_rfl) (by kernel_rfl) (fun _ _ _ h => h) (by rfl) ?hy9 hS0 ?rest9
      case hy9 =>
        intro wx hx
        obtain ⟨m0, m1, m2, m3, m4, m5⟩ := hx
        go_simp
        try rfl
      case rest9 =>
      intro K2 hK
      go_simp
      refine hK.out _ ?_
      clear hK K2
      refine anyE_one 9 (by kernel_rfl) rfl (fun K2 hK => ?_)
      go_simp
      refine (HBE.out).mono ?_
      rintro e w5 ⟨kd, rfl, rfl⟩
      refine hK.out _ _ (fun _ => hS0) ?_
      clear hK K2
      refine anyE_one 10 (by kernel_rfl) rfl (fun K2 hK => ?_)
      go_simp
      refine hK.out _ _ (fun _ => hS0) ?_
      clear hK K2
      refine anyE_one 11 (by kernel_rfl) rfl (fun K2 hK => ?_)
      go_simp
      obtain ⟨M, hM⟩ : ∃ M, M = (if g < cn + q then cn + q else g) := ⟨_, rfl⟩
      rw [← hM]
      rw [show mxI g (cn + q) = M from hM.symm] at HG
      clear hM
      refine hK.out _ _ (fun _ => hS0) ?_
      clear hK K2
      have f3 : W.frozen? ⟨w.heap.size + 1 + 1 + 1, 0, none⟩ = false := HI.out.g.frozen
      have c3 : W.cell? ⟨w.heap.size + 1 + 1 + 1, 0, none⟩ = some (.int .i64 (grt cs k (home + 1).toNat from_ pre)) := HI.out.g.cell
      have l3 := HI.out.g.lt
      refine anyE_one 12 (by kernel_rfl) rfl (fun K2 hK => ?_)
      go_simp
      refine hK.out _ _ (fun h => absurd rfl h) ?_
      clear hK K2
      refine anyE_done (by kernel_rfl) ?_ _
      have HG2 := HG.out
      have hbd : Below W.heap.size W (W.drewN (1 + kd)) := below_drewN (Below.refl _ _) _
      have hgd : Boxed (W.drewN (1 + kd)) (w.heap.size + 3) 3 (.int .i64 (grt cs k (home + 1).toNat from_ pre)) := (hbd.block _ HI.out.g.lt).trans HI.out.g
      have hst := hgd.set (.int .i64 M)
      have hgs := grownBy_setCell' (W.drewN (1 + kd)) (w.heap.size + 3) (.int .i64 M)
      have hks : KpS (fun b => b ≠ w.heap.size + 3) (W.drewN (1 + kd)) ((W.drewN (1 + kd)).setCell ⟨w.heap.size + 3, 0, none⟩ (.int .i64 M)) := fun b hb o v hc => by rw [World.cell?_setCell_other _ _ _ _ (by simp <;> omega)]; exact hc
      refine ⟨(KeepsFrom.of_grownBy (grown_of hbd) (fun j e => by cases e)).trans ((KeepsOthers.setCell _ _ _).from _), (KpS.below hbd).trans hks, ⟨?_, HI.out.kp.trans ((KpS.below hbd).trans hks), (bel_trans HI.out.bel hbd).setCell (p := ⟨_, _, _⟩) (by show w.heap.size ≤ w.heap.size + 3; omega) _, ?_⟩⟩
      · rw [HG2]; exact hst
      · have h1 := HI.out.size
        have h2 := hbd.size
        have h3 : (W.drewN (1 + kd)).heap.size ≤ ((W.drewN (1 + kd)).setCell ⟨w.heap.size + 1 + 1 + 1, 0, none⟩ (.int .i64 M)).heap.size := hgs.size
        omega
    case done =>
      rintro D xs W hD hS hI hK
      have c1 := hI.g.cell
      have l1 := hI.g.lt
      rw [grt_all hS f0 (fun c hc => by
        obtain ⟨j, hj, rfl⟩ := List.getElem_of_mem hc
        exact (HS4.out j hj).1) k] at c1
      have HI := hide hI.bel
      clear hI
      gi_wp2
      refine ⟨by simp, .inl ⟨_, _, rfl, run_takeDeferred hK, ?_⟩⟩
      exact ⟨_, results_tmp rfl _ _ _, rfl, HI.out.trans (belowK_b (w := w) (Nat.le_refl _) W D _ _ (by omega) hK rfl rfl)⟩
    case stop =>
      rintro D c pre W _ _ h _
      exact h.elim
end Go.Proofs.Yteedainidoldoaa
