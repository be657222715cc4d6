/- The program's list, walked. -/
import Derived.Test.YteedainidoldoaaSwE
namespace Go.Proofs.Yteedainidoldoaa
open Go.ChangeShapes Go.WideShapes Go.ChangeAt Go.RowKit Go.Shelf
attribute [local go_sem] Oper.semAt_some

/-- Between two rounds of a search for the next position. -/
structure LsI (sb : Nat) (cs : List Cn) (k : Nat) (p : List Nat) (sum side home : Int) (ds : List Nat) (w W0 W : World) (pre : List (El cs side)) : Prop where
  ls : ∃ hv, Ls sb w W (k : Int) p sum side hv ∧ (p ≠ [] → hv = home)
  kp : KpS (fun b => b ≠ w.heap.size + 5) W0 W
  no : ∀ y ∈ pre, psC cs k p sum home cs[y.1] = false
  size : W0.heap.size ≤ W.heap.size
  mks : Mk w.heap.size W ds
/-- A position was put. -/
structure LsX (sb : Nat) (cs : List Cn) (k : Nat) (p : List Nat) (sum side home : Int) (ds : List Nat) (w W0 W : World) (all : List (El cs side)) : Prop where
  put : ∃ (pre : List (El cs side)) (x : El cs side), all = pre ++ [x] ∧ (∀ y ∈ pre, psC cs k p sum home cs[y.1] = false) ∧ psC cs k p sum home cs[x.1] = true ∧ Ls sb w W (k : Int) (p ++ [x.1.val]) (sum + cs[x.1].n) cs[x.1].b (hmOf p home cs[x.1])
  size : W0.heap.size ≤ W.heap.size
  mks : Mk w.heap.size W ds
theorem mk_own {z : Nat} {A B : World} {ds : List Nat} (h : Mk z A ds) {row : Option Nat} (hg : A.grownBy B row) {S : Nat} (hlt : ∀ D ∈ ds, D < S) (hr : ∀ r, row = some r → S ≤ r ∧ ∃ o : Obj, A.heap[r]? = some o ∧ o.isCells = false) : Mk z B ds :=
  h.grown hg (fun r e hd => by have := (hr r e).1; have := hlt r hd; omega)
theorem lsI_own (sb : Nat) (cs : List Cn) (k : Nat) (p : List Nat) (sum side home : Int) (ds : List Nat) (w W0 : World) (B : Nat) (hB : w.heap.size + 6 ≤ B) (hlt : ∀ D ∈ ds, D < B) : OwnFrom B (fun pre W => LsI sb cs k p sum side home ds w W0 W pre) := fun _ A B2 row hs hg hr => by
  obtain ⟨⟨hv, h1, h2⟩, h3, h4, h5, h6⟩ := hs
  exact ⟨⟨hv, h1.grown hg (fun r e => ⟨by have := (hr r e).1; omega, (hr r e).2⟩), h2⟩, h3.trans (KpS.grown hg (fun r e => (hr r e).2)), h4, Nat.le_trans h5 hg.size, mk_own h6 hg hlt hr⟩
theorem lsX_own (sb : Nat) (cs : List Cn) (k : Nat) (p : List Nat) (sum side home : Int) (ds : List Nat) (w W0 : World) (B : Nat) (hB : w.heap.size + 6 ≤ B) (hlt : ∀ D ∈ ds, D < B) (c : Code) : OwnFrom B (fun pre W => c = Code.exit 1 ∧ LsX sb cs k p sum side home ds w W0 W pre) := fun _ A B2 row hs hg hr => by
  obtain ⟨hc, ⟨pre, x, h1, h2, h3, h4⟩, h5, h6⟩ := hs
  exact ⟨hc, ⟨pre, x, h1, h2, h3, h4.grown hg (fun r e => ⟨by have := (hr r e).1; omega, (hr r e).2⟩)⟩, Nat.le_trans h5 hg.size, mk_own h6 hg hlt hr⟩
set_option maxRecDepth 100000 in
set_option maxHeartbeats 16000000 in
theorem list_any (sb n : Nat) (v : Value) (cs : List Cn) (L l : Nat) (w : World) (h : Cy w sb n v cs L) (hl : l < L) (hL : L ≤ 31) (hn : n ≤ 30) (hok : consB n cs = true) (s : Nat) (hs : s < cs.length) (hq : cyQ (cs.map ctC) l s = true) (hmin : ∀ t, t < s → cyQ (cs.map ctC) l t = false) :
    Calls Try.prog 43 #[.pointer (some ⟨sb, 0, none⟩), .int .i64 l] w fun e w' => ∃ v', e = .returned v' ∧ w'.ownsRow w.heap.size 3 1 v' (lst (cs.map ctC) l s).length (natI (lst (cs.map ctC) l s)) ∧ Below w.heap.size w w' := by
  obtain ⟨i3, hi3, hz3, hs3, hb3⟩ := info_parts Try.info3
  have HCY := hide h
  obtain ⟨⟨g1, g2, g3⟩, g4⟩ := consB_yes hok
  have HS4 := hide g4
  have hsb := lt_cell h.cn
  have HCN : Hid (∀ c ∈ cs, -1000 ≤ c.n ∧ c.n ≤ 1000) := by
    intro c hc
    obtain ⟨j, hj, rfl⟩ := List.getElem_of_mem hc
    exact (g4 j hj).2.2.2.2
  have HCA : Hid (∀ c ∈ cs, -1 ≤ c.a) := by
    intro c hc
    obtain ⟨j, hj, rfl⟩ := List.getElem_of_mem hc
    exact (g4 j hj).1
  have HSQ := hide (And.intro hs (And.intro hq hmin))
  clear h hok g4 hs hq hmin
  refine (callsIn_wide (n := 3)).1 ?_
  refine callsIn_of_wp_marks Try.func43 rfl trivial ?_ rfl
  simp only [Try.ntmps43, List.size_toArray, List.length_cons, List.length_nil, Nat.reduceAdd, Nat.reduceSub, Array.replicate_succ, Array.replicate_zero, List.push_toArray, List.append_toArray, List.nil_append, List.cons_append]
  gi_wp2
  refine wpIn_scope_wide ?_
  gi_wp2
  refine wpIn_label ?_
  gi_wp2
  obtain ⟨w1, hw1⟩ : ∃ w1, w1 = ((((((w.alloc (.cells #[.pointer (some ⟨sb, 0, none⟩)] 69)).alloc (.cells #[.int .i64 (l : Int)] 3)).alloc (.cells #[.slice none 0 0] 24)).alloc (.cells #[.int .i64 0] 3)).alloc (.cells #[.int .i64 (-1)] 3)).alloc (.cells #[.int .i64 (-1)] 3)) := ⟨_, rfl⟩
  rw [← hw1]
  have HL0 : Hid (Ls sb w w1 (((l + 1 : Nat) : Int) - 1) [] 0 (-1) (-1)) := by
    have b1 := Boxed.new (w.alloc (.cells #[.pointer (some ⟨sb, 0, none⟩)] 69)) 3 (.int .i64 (l : Int))
    rw [World.size_alloc] at b1
    have b2 := Boxed.new ((w.alloc (.cells #[.pointer (some ⟨sb, 0, none⟩)] 69)).alloc (.cells #[.int .i64 (l : Int)] 3)) 24 (.slice none 0 0)
    rw [World.size_alloc, World.size_alloc] at b2
    have b3 := Boxed.new (((w.alloc (.cells #[.pointer (some ⟨sb, 0, none⟩)] 69)).alloc (.cells #[.int .i64 (l : Int)] 3)).alloc (.cells #[.slice none 0 0] 24)) 3 (.int .i64 0)
    rw [World.size_alloc, World.size_alloc, World.size_alloc] at b3
    have b4 := Boxed.new ((((w.alloc (.cells #[.pointer (some ⟨sb, 0, none⟩)] 69)).alloc (.cells #[.int .i64 (l : Int)] 3)).alloc (.cells #[.slice none 0 0] 24)).alloc (.cells #[.int .i64 0] 3)) 3 (.int .i64 (-1))
    rw [World.size_alloc, World.size_alloc, World.size_alloc, World.size_alloc] at b4
    have b5 := Boxed.new (((((w.alloc (.cells #[.pointer (some ⟨sb, 0, none⟩)] 69)).alloc (.cells #[.int .i64 (l : Int)] 3)).alloc (.cells #[.slice none 0 0] 24)).alloc (.cells #[.int .i64 0] 3)).alloc (.cells #[.int .i64 (-1)] 3)) 3 (.int .i64 (-1))
    rw [World.size_alloc, World.size_alloc, World.size_alloc, World.size_alloc, World.size_alloc] at b5
    have e : (((l + 1 : Nat) : Int) - 1) = (l : Int) := by omega
    rw [e, hw1]
    exact ⟨(((((Boxed.new w 69 _).alloc _).alloc _).alloc _).alloc _).alloc _, (((b1.alloc _).alloc _).alloc _).alloc _, ⟨_, ((b2.alloc _).alloc _).alloc _, World.ownsRow_nil _ _ _ _⟩, (b3.alloc _).alloc _, b4.alloc _, b5, bel_alloc (bel_alloc (bel_alloc (bel_alloc (bel_alloc (bel_alloc (Below.refl _ _) _) _) _) _) _) _⟩
  clear hw1
  refine wpIn_loop_ghost_k (fun k a W => ∃ (p : List Nat) (sum side home hv : Int) (ds : List Nat), p.length + k ≤ l + 1 ∧ Hid (Ls sb w W ((k : Int) - 1) p sum side hv) ∧ (p ≠ [] → hv = home) ∧ -1 ≤ side ∧ side < n ∧ (p ≠ [] → -1 ≤ home ∧ home < n) ∧ -1000 * ((l : Int) + 1 - k) ≤ sum ∧ sum ≤ 1000 * ((l : Int) + 1 - k) ∧ Hid (Nxt cs l s k p sum side home) ∧ Hid (Mk w.heap.size W ds) ∧ ∃ u9 u10 u11 u12 u13 u14 u15 u16 u17 u18 u19 u20 u21 u22 u23 u24 u25 u26 u27 u28 u29 u30 u31 u32 u33 u34 u35 u36 u37 u38 u39 u40 u41 u42 u43 u44 u45 u46 u47 : Value, a = { tmps := (.pointer (some ⟨sb, 0, none⟩) :: .int .i64 (l : Int) :: .pointer (some ⟨w.heap.size, 0, none⟩) :: .pointer (some ⟨w.heap.size + 1, 0, none⟩) :: .slice none 0 0 :: .pointer (some ⟨w.heap.size + 1 + 1, 0, none⟩) :: .pointer (some ⟨w.heap.size + 1 + 1 + 1, 0, none⟩) :: .pointer (some ⟨w.heap.size + 1 + 1 + 1 + 1, 0, none⟩) :: .pointer (some ⟨w.heap.size + 1 + 1 + 1 + 1 + 1, 0, none⟩) :: u9 :: u10 :: u11 :: u12 :: u13 :: u14 :: u15 :: u16 :: u17 :: u18 :: u19 :: u20 :: u21 :: u22 :: u23 :: u24 :: u25 :: u26 :: u27 :: u28 :: u29 :: u30 :: u31 :: u32 :: u33 :: u34 :: u35 :: u36 :: u37 :: u38 :: u39 :: u40 :: u41 :: u42 :: u43 :: u44 :: u45 :: u46 :: u47 :: []).toArray, defers := marks ds }) (l + 1) ?start ?round
  case start =>
    exact ⟨[], 0, -1, -1, -1, [], by simp, HL0, fun h => absurd rfl h, by omega, by omega, fun h => absurd rfl h, by omega, by omega, .inl ⟨rfl, rfl, rfl, rfl⟩, ⟨List.nodup_nil, fun D h => by cases h⟩, _, _, _, _, _, _, _, _, _, _, _, _, _, _, _, _, _, _, _, _, _, _, _, _, _, _, _, _, _, _, _, _, _, _, _, _, _, _, _, rfl⟩
  case round =>
    clear HL0
    rintro kk a wr hI J K hJ hK
    obtain ⟨p, sum, side, home, hv, ds, hkl, HLS, hph, hs1, hs2, hhm, hu1, hu2, HNX, HMK, u9, u10, u11, u12, u13, u14, u15, u16, u17, u18, u19, u20, u21, u22, u23, u24, u25, u26, u27, u28, u29, u30, u31, u32, u33, u34, u35, u36, u37, u38, u39, u40, u41, u42, u43, u44, u45, u46, u47, rfl⟩ := hI
    have HPH := hide hph
    have HHM := hide hhm
    have HJ2 := hide hJ
    have HK2 := hide hK
    clear hph hhm hJ
    have c1 := HLS.out.l.cell
    have l1 := HLS.out.l.lt
    have c4 := HLS.out.sd.cell
    have l4 := HLS.out.sd.lt
    have c0 := HLS.out.s.cell
    have l0 := HLS.out.s.lt
    cases kk with
    | zero =>
      obtain ⟨v5, hb5, hrow5⟩ := HLS.out.ls
      obtain ⟨a5, cap5, rfl⟩ := row_shape hrow5
      have c5 := hb5.cell
      have l5 := hb5.lt
      have HB5 := hide hb5
      have HR5 := hide hrow5
      clear hb5 hrow5
      gi_wp2
      have hpl := nxt_done HNX.out
      refine leaves_marks (z := w.heap.size) (n := 3) (fun W => W.ownsRow (w.heap.size + 6) 3 1 (.slice a5 p.length cap5) p.length (natI p) ∧ Below w.heap.size w W) (fun W D hz h hd => ?_) (fun W h => ?_) ds wr HMK.out ⟨HR5.out, HLS.out.bel⟩
      · refine ⟨h.1.kept (grownBy_putObj' W D _) (.inr (fun e => ?_)), h.2.grown (grownBy_putObj' W D _) h.2.size (fun r e => by have e := Option.some.inj e; omega)⟩
        rcases h.1.2 with ⟨he, _⟩ | ⟨g, cap, cur, he, _, hgb, _⟩
        · rw [he] at e; cases e
        · rw [he] at e
          have e : g = D := by simpa [Value.ownBlock] using e
          rw [e, hd] at hgb
          cases hgb
      · refine ⟨_, results_tmp rfl _ _ _, _, rfl, ?_, h.2⟩
        rw [← hpl]
        exact row_from h.1 (by omega)
    | succ k =>
      have e1 : (((k + 1 : Nat) : Int) - 1) = (k : Int) := by omega
      have HLS1 : Hid (Ls sb w wr (k : Int) p sum side hv) := by
        have h := HLS.out
        rw [e1] at h
        exact h
      obtain ⟨t, ht, hj, hpt, hmn, hnx⟩ := nxt_step HCN.out HCA.out HSQ.out.1 HSQ.out.2.1 HSQ.out.2.2 (by omega) (by omega) hs1 HNX.out
      have HTN := hide hnx
      have HTM := hide (And.intro hj (And.intro hpt hmn))
      rw [e1] at c1
      clear HLS hnx hj hpt hmn HNX e1
      have hk0 : (0 : Int) ≤ (k : Int) := by omega
      gi_wp2_with (first | (refine ⟨trivial, ?_⟩; gi_at_call 49; refine (callsIn_wide.2 (behind_any _ _ _)).mono ?_; rintro e w' ⟨rfl, rfl⟩) | (gi_at_call 49; refine (callsIn_wide.2 (behind_any _ _ _)).mono ?_; rintro e w' ⟨rfl, rfl⟩))
      obtain ⟨W0, hW0⟩ : ∃ W0, W0 = ((wr.alloc (.cells #[.pointer (some ⟨sb, 0, none⟩)] 69)).alloc (.cells #[.int .i64 side] 3)) := ⟨_, rfl⟩
      rw [← hW0]
      have hB0 : Below wr.heap.size wr W0 := by rw [hW0]; exact bel_alloc (bel_alloc (Below.refl _ _) _) _
      have hsz : W0.heap.size = wr.heap.size + 2 := by rw [hW0]; simp
      have b4 : Boxed W0 wr.heap.size 69 (.pointer (some ⟨sb, 0, none⟩)) := by rw [hW0]; exact (Boxed.new wr 69 _).alloc _
      have b5 : Boxed W0 (wr.heap.size + 1) 3 (.int .i64 side) := by
        have h := Boxed.new (wr.alloc (.cells #[.pointer (some ⟨sb, 0, none⟩)] 69)) 3 (.int .i64 side)
        rw [World.size_alloc] at h
        rw [hW0]; exact h
      have hwz : w.heap.size + 6 ≤ wr.heap.size := HLS1.out.size
      have HLT : Hid (∀ D ∈ ds, D < W0.heap.size) := fun D hD => Nat.lt_of_lt_of_le (HMK.out.lt hD) hB0.size
      clear hW0 c0 l0 c1 l1 c4 l4
      refine wpIn_rangeFunc_ownH rfl (by omega) (gf := 52) (lb := #[.pointer (some ⟨wr.heap.size, 0, none⟩), .pointer (some ⟨wr.heap.size + 1, 0, none⟩)]) rfl trivial (enters_of Try.func52 (by kernel_rfl) rfl)
        (beh_stops (3 - 1) (by omega) wr.heap.size (wr.heap.size + 1) sb v cs side (fun b => b ≠ w.heap.size + 5) w W0 (by omega) HCY.out.cc HCY.out.cons (fun b hb => by omega) (by omega) (by omega) ⟨KpS.below (bel_trans HLS1.out.bel hB0), b4.cell, b5.cell⟩) (fun h1 h2 => KpS.trans h1 h2) (fun W l o o' _ hl ho _ => KpS.grown (grownBy_putObj' W l o') (fun r e => by cases e; exact ⟨o, hl, ho⟩)) (Below.refl _ _) (fun _ => rfl)
        (fun pre W => LsI sb cs k p sum side home ds w W0 W pre)
        (fun c pre W => c = Code.exit 1 ∧ LsX sb cs k p sum side home ds w W0 W pre)
        (lsI_own sb cs k p sum side home ds w W0 _ (by omega) HLT.out)
        (fun c => lsX_own sb cs k p sum side home ds w W0 _ (by omega) HLT.out c)
        ⟨⟨hv, HLS1.out.keep hB0, HPH.out⟩, KpS.refl _, (fun y h => by cases h), Nat.le_refl _, HMK.out.keep hB0⟩
        (fun x a' W => ∃ Bx, w.heap.size + 5 < Bx ∧ W.heap[Bx]? = some (.cells #[.int .i64 cs[x.1].a, .int .i64 cs[x.1].n, .int .i64 cs[x.1].b] 42 (0, 0)) ∧ a' = ({ tmps := (.pointer (some ⟨sb, 0, none⟩) :: .int .i64 (l : Int) :: .pointer (some ⟨w.heap.size, 0, none⟩) :: .pointer (some ⟨w.heap.size + 1, 0, none⟩) :: .slice none 0 0 :: .pointer (some ⟨w.heap.size + 1 + 1, 0, none⟩) :: .pointer (some ⟨w.heap.size + 1 + 1 + 1, 0, none⟩) :: .pointer (some ⟨w.heap.size + 1 + 1 + 1 + 1, 0, none⟩) :: .pointer (some ⟨w.heap.size + 1 + 1 + 1 + 1 + 1, 0, none⟩) :: .int .i64 (x.1.val : Int) :: .pointer (some ⟨Bx, 0, none⟩) :: .int .i64 (k : Int) :: .bool true :: u13 :: u14 :: .pointer (some ⟨sb, 0, none⟩) :: .int .i64 side :: .func (.func 52) #[] #[.pointer (some ⟨wr.heap.size, 0, none⟩), .pointer (some ⟨wr.heap.size + 1, 0, none⟩)] :: .int .i64 (x.1.val : Int) :: .agg #[.int .i64 cs[x.1].a, .int .i64 cs[x.1].n, .int .i64 cs[x.1].b] :: u20 :: u21 :: u22 :: u23 :: u24 :: u25 :: u26 :: u27 :: u28 :: u29 :: u30 :: u31 :: u32 :: u33 :: u34 :: u35 :: u36 :: u37 :: u38 :: u39 :: u40 :: u41 :: u42 :: u43 :: u44 :: u45 :: u46 :: u47 :: []).toArray, defers := [] } : Act))
        (fun x a' s A B row hs hg hr => by
          obtain ⟨Bx, h1, h2, h3⟩ := hs
          refine ⟨Bx, h1, (hg.block Bx (Array.getElem?_eq_some_iff.1 h2).1 (fun e => ?_)).trans h2, h3⟩
          obtain ⟨_, ob, h4, h5⟩ := hr Bx e.symm
          rw [h2] at h4
          cases h4
          cases h5) ?assign ?body ?done ?stop
      case assign =>
        rintro l2 pre x W K3 hI3 hK3
        have HI3 := hide hI3
        have hb4 : Below W.heap.size W (W.alloc (.cells #[.int .i64 cs[x.1].a, .int .i64 cs[x.1].n, .int .i64 cs[x.1].b] 42)) := bel_alloc (Below.refl _ _) _
        have hg4 := (KeepsOthers.alloc W (.cells #[.int .i64 cs[x.1].a, .int .i64 cs[x.1].n, .int .i64 cs[x.1].b] 42)).from W0.heap.size
        unfold behV
        gi_wp2
        exact hK3 _ _ hg4 (KpS.below hb4) (lsI_own sb cs k p sum side home ds w W0 W0.heap.size (by omega) HLT.out pre W _ none HI3.out (grown_of hb4) (fun r e => by cases e)) ⟨W.heap.size, by have := HI3.out.size; omega, heap_alloc_new W _, rfl⟩
      case body =>
        rintro l2 pre x a' W hl2 ⟨r, hr⟩ hI3 ⟨Bx, hBx, bX, rfl⟩ hlt
        have HI3 := hide hI3
        obtain ⟨hv2, h1, h2⟩ := hI3.ls
        obtain ⟨s1, s2, s3, s4, s5, s6⟩ := HS4.out x.1.val x.1.isLt
        have hX0 : W.cell? ⟨Bx, 0, none⟩ = some (.int .i64 cs[x.1].a) := by rw [Lib.cell_of_heap bX]; rfl
        obtain ⟨v5, hb5, hrow5⟩ := h1.ls
        obtain ⟨a5, cap5, rfl⟩ := row_shape hrow5
        have c5 := hb5.cell
        have l5 := hb5.lt
        have lBx : Bx < W.heap.size := (Array.getElem?_eq_some_iff.1 bX).1
        have HC0 : Hid (cs[x.1].a = cs[x.1].a ∧ cs[x.1].n = cs[x.1].n ∧ cs[x.1].b = cs[x.1].b) := ⟨rfl, rfl, rfl⟩
        obtain ⟨ca, cn, cb, HC⟩ : ∃ ca cn cb, Hid (cs[x.1].a = ca ∧ cs[x.1].n = cn ∧ cs[x.1].b = cb) := ⟨_, _, _, rfl, rfl, rfl⟩
        have z1 : cs[x.1.val].a = ca := HC.out.1
        have z2 : cs[x.1.val].n = cn := HC.out.2.1
        have z3 : cs[x.1.val].b = cb := HC.out.2.2
        rw [z1] at s1 s2
        rw [z2] at s5 s6
        rw [z3] at s3 s4
        rw [HC.out.1] at hX0
        rw [HC.out.1, HC.out.2.1, HC.out.2.2] at bX
        rw [HC.out.1, HC.out.2.1, HC.out.2.2]
        clear hb5 hrow5 hI3 HC0 z1 z2 z3 hr
        by_cases hpe : p = []
        · subst hpe
          have c8 := h1.hm.cell
          have f8 := h1.hm.frozen
          have l8 := h1.hm.lt
          have HLh : Hid (Ls sb w (W.setCell ⟨w.heap.size + 5, 0, none⟩ (.int .i64 ca)) (k : Int) [] sum side ca) := h1.home ca
          have hgh : W.grownBy (W.setCell ⟨w.heap.size + 5, 0, none⟩ (.int .i64 ca)) (some (w.heap.size + 5)) := grownBy_setCell' W (w.heap.size + 5) (.int .i64 ca)
          have hXh : (W.setCell ⟨w.heap.size + 5, 0, none⟩ (.int .i64 ca)).heap[Bx]? = some (.cells #[.int .i64 ca, .int .i64 cn, .int .i64 cb] 42 (0, 0)) := (hgh.block Bx (Array.getElem?_eq_some_iff.1 bX).1 (fun e => by have := Option.some.inj e; omega)).trans bX
          have HKh : Hid (KpS (fun b => b ≠ w.heap.size + 5) W (W.setCell ⟨w.heap.size + 5, 0, none⟩ (.int .i64 ca))) := fun b hb o v hc => by rw [World.cell?_setCell_other _ _ _ _ (by simp <;> omega)]; exact hc
          have HOh : Hid (KeepsOthers W (W.setCell ⟨w.heap.size + 5, 0, none⟩ (.int .i64 ca))) := KeepsOthers.setCell _ _ _
          clear h1 h2
          refine wpIn_block ?_
          gi_wp2
          clear c8 f8 l8
          have HLh2 : Hid (Ls sb w (W.setCell ⟨w.heap.size + 1 + 1 + 1 + 1 + 1, 0, none⟩ (.int .i64 ca)) (k : Int) [] sum side ca) := HLh
          have hXh2 : (W.setCell ⟨w.heap.size + 1 + 1 + 1 + 1 + 1, 0, none⟩ (.int .i64 ca)).heap[Bx]? = some (.cells #[.int .i64 ca, .int .i64 cn, .int .i64 cb] 42 (0, 0)) := hXh
          have HKh2 : Hid (KpS (fun b => b ≠ w.heap.size + 5) W (W.setCell ⟨w.heap.size + 1 + 1 + 1 + 1 + 1, 0, none⟩ (.int .i64 ca))) := HKh
          have HOh2 : Hid (KeepsOthers W (W.setCell ⟨w.heap.size + 1 + 1 + 1 + 1 + 1, 0, none⟩ (.int .i64 ca))) := HOh
          have hszh : W.heap.size ≤ (W.setCell ⟨w.heap.size + 1 + 1 + 1 + 1 + 1, 0, none⟩ (.int .i64 ca)).heap.size := hgh.size
          clear HLh hXh HKh HOh hgh
          generalize W.setCell ⟨w.heap.size + 1 + 1 + 1 + 1 + 1, 0, none⟩ (.int .i64 ca) = Wh at *
          have hX1 : Wh.cell? ⟨Bx, 1, none⟩ = some (.int .i64 cn) := by rw [Lib.cell_of_heap hXh2]; rfl
          have hX2 : Wh.cell? ⟨Bx, 2, none⟩ = some (.int .i64 cb) := by rw [Lib.cell_of_heap hXh2]; rfl
          have HBE := hide (best_any sb n v cs L k cb ca Wh.drew ((HCY.out.keep HLh2.out.bel).keep (Below.refl _ _).drew) (by omega) hL hn s3 s4 s1 s2)
          obtain ⟨q1, q2⟩ := pb_rng (cs := cs.map ctC) (ct_rng HCN.out) (k := k) (cb + 1).toNat (ca + 1).toNat (by omega)
          have HPS : Hid (psC cs k [] sum home cs[x.1] = decide (0 < sum + cn + pb (cs.map ctC) k (cb + 1).toNat (ca + 1).toNat)) := by
            show _ = _
            unfold psC hmOf
            rw [HC.out.2.1, HC.out.2.2, if_pos rfl, HC.out.1]
          generalize pb (cs.map ctC) k (cb + 1).toNat (ca + 1).toNat = q at *
          have hwk1 : IntKind.i64.wrap (sum + cn) = sum + cn := by rw [IntKind.wrap_i64]; omega
          have hwk2 : IntKind.i64.wrap (sum + cn + q) = sum + cn + q := by unfold noW at q1; rw [IntKind.wrap_i64]; omega
          have hS0 : Wh.drew.cell? ⟨w.heap.size + 1 + 1 + 1, 0, none⟩ = some (.int .i64 sum) ∧ Wh.drew.cell? ⟨Bx, 1, none⟩ = some (.int .i64 cn) ∧ Wh.drew.cell? ⟨w.heap.size, 0, none⟩ = some (.pointer (some ⟨sb, 0, none⟩)) ∧ Wh.drew.cell? ⟨w.heap.size + 1, 0, none⟩ = some (.int .i64 (k : Int)) ∧ Wh.drew.cell? ⟨Bx, 2, none⟩ = some (.int .i64 cb) ∧ Wh.drew.cell? ⟨w.heap.size + 1 + 1 + 1 + 1 + 1, 0, none⟩ = some (.int .i64 ca) := ⟨HLh2.out.sm.cell, hX1, HLh2.out.s.cell, HLh2.out.l.cell, hX2, HLh2.out.hm.cell⟩
          refine region_round (L := 12) (S := fun w' : World => w'.cell? ⟨w.heap.size + 1 + 1 + 1, 0, none⟩ = some (.int .i64 sum) ∧ w'.cell? ⟨Bx, 1, none⟩ = some (.int .i64 cn) ∧ w'.cell? ⟨w.heap.size, 0, none⟩ = some (.pointer (some ⟨sb, 0, none⟩)) ∧ w'.cell? ⟨w.heap.size + 1, 0, none⟩ = some (.int .i64 (k : Int)) ∧ w'.cell? ⟨Bx, 2, none⟩ = some (.int .i64 cb) ∧ w'.cell? ⟨w.heap.size + 1 + 1 + 1 + 1 + 1, 0, none⟩ = some (.int .i64 ca)) (by kernel_rfl) (by kernel_rfl) (by intro h; obtain ⟨_, _, h⟩ := h; exact h) ?_
          refine anyE_take2 0 (v := ?v1) rfl (by kernel_rfl) (by kernel_rfl) (by kernel_rfl) (by kernel_rfl) (fun _ _ _ h => h) (by rfl) ?hy1 hS0 ?rest1
          case hy1 =>
            intro wx hx
            obtain ⟨m0, m1, m2, m3, m4, m5⟩ := hx
            go_simp
            try rfl
          case rest1 =>
          intro K2 hK2
          go_simp
          refine hK2.out _ ?_
          clear hK2 K2
          refine anyE_take2 1 (v := ?v2) rfl (by kernel_rfl) (by kernel_rfl) (by kernel_rfl) (by kernel_rfl) (fun _ _ _ h => h) (by rfl) ?hy2 hS0 ?rest2
          case hy2 =>
            intro wx hx
            obtain ⟨m0, m1, m2, m3, m4, m5⟩ := hx
            go_simp
            try rfl
          case rest2 =>
          intro K2 hK2
          go_simp
          refine hK2.out _ ?_
          clear hK2 K2
          refine anyE_take2 2 (v := ?v3) rfl (by kernel_rfl) (by kernel_rfl) (by kernel_rfl) (by kernel_rfl) (fun _ _ _ h => h) (by rfl) ?hy3 hS0 ?rest3
          case hy3 =>
            intro wx hx
            obtain ⟨m0, m1, m2, m3, m4, m5⟩ := hx
            go_simp
            try rfl
          case rest3 =>
          intro K2 hK2
          go_simp
          refine hK2.out _ ?_
          clear hK2 K2
          refine anyE_take2 3 (v := ?v4) rfl (by kernel_rfl) (by kernel_rfl) (by kernel_rfl) (by kernel_rfl) (fun _ _ _ h => h) (by rfl) ?hy4 hS0 ?rest4
          case hy4 =>
            intro wx hx
            obtain ⟨m0, m1, m2, m3, m4, m5⟩ := hx
            go_simp
            try rfl
          case rest4 =>
          intro K2 hK2
          go_simp
          refine hK2.out _ ?_
          clear hK2 K2
          refine anyE_take2 4 (v := ?v5) rfl (by kernel_rfl) (by kernel_rfl) (by kernel_rfl) (by kernel_rfl) (fun _ _ _ h => h) (by rfl) ?hy5 hS0 ?rest5
          case hy5 =>
            intro wx hx
            obtain ⟨m0, m1, m2, m3, m4, m5⟩ := hx
            go_simp
            try rfl
          case rest5 =>
          intro K2 hK2
          go_simp
          refine hK2.out _ ?_
          clear hK2 K2
          refine anyE_take2 5 (v := ?v6) rfl (by kernel_rfl) (by kernel_rfl) (by kernel_rfl) (by kernel_rfl) (fun _ _ _ h => h) (by rfl) ?hy6 hS0 ?rest6
          case hy6 =>
            intro wx hx
            obtain ⟨m0, m1, m2, m3, m4, m5⟩ := hx
            go_simp
            try rfl
          case rest6 =>
          intro K2 hK2
          go_simp
          refine hK2.out _ ?_
          clear hK2 K2
          refine anyE_take2 6 (v := ?v7) rfl (by kernel_rfl) (by kernel_rfl) (by kernel_rfl) (by kernel_rfl) (fun _ _ _ h => h) (by rfl) ?hy7 hS0 ?rest7
          case hy7 =>
            intro wx hx
            obtain ⟨m0, m1, m2, m3, m4, m5⟩ := hx
            go_simp
            try rfl
          case rest7 =>
          intro K2 hK2
          go_simp
          refine hK2.out _ ?_
          clear hK2 K2
          refine anyE_take2 7 (v := ?v8) rfl (by kernel_rfl) (by kernel_rfl) (by kernel_rfl) (by kernel_rfl) (fun _ _ _ h => h) (by rfl) ?hy8 hS0 ?rest8
          case hy8 =>
            intro wx hx
            obtain ⟨m0, m1, m2, m3, m4, m5⟩ := hx
            go_simp
            try rfl
          case rest8 =>
          intro K2 hK2
          go_simp
          refine hK2.out _ ?_
          clear hK2 K2
          refine anyE_take2 8 (v := ?v9) rfl (by kernel_rfl) (by kernel_rfl) (by kernel_rfl) (by kernel_rfl) (fun _ _ _ h => h) (by rfl) ?hy9 hS0 ?rest9
          case hy9 =>
            intro wx hx
            obtain ⟨m0, m1, m2, m3, m4, m5⟩ := hx
            go_simp
            try rfl
          case rest9 =>
          intro K2 hK2
          go_simp
          refine hK2.out _ ?_
          clear hK2 K2
          refine anyE_one 9 (by kernel_rfl) rfl (fun K2 hK2 => ?_)
          go_simp
          refine (HBE.out).mono ?_
          rintro e w5 ⟨kd, rfl, rfl⟩
          refine hK2.out _ _ (fun _ => hS0) ?_
          clear hK2 K2
          refine anyE_one 10 (by kernel_rfl) rfl (fun K2 hK2 => ?_)
          go_simp
          refine hK2.out _ _ (fun _ => hS0) ?_
          clear hK2 K2
          refine anyE_one 11 (by kernel_rfl) rfl (fun K2 hK2 => ?_)
          go_simp
          refine hK2.out _ _ (fun _ => hS0) ?_
          clear hK2 K2
          refine anyE_done (by kernel_rfl) ?_ _
          have hbd : Below Wh.heap.size Wh (Wh.drewN (1 + kd)) := below_drewN (Below.refl _ _) _
          have HLd := hide (HLh2.out.keep hbd)
          have hXd : (Wh.drewN (1 + kd)).heap[Bx]? = some (.cells #[.int .i64 ca, .int .i64 cn, .int .i64 cb] 42 (0, 0)) := hXh2
          have HKd : Hid (KpS (fun b => b ≠ w.heap.size + 5) W (Wh.drewN (1 + kd))) := HKh2.out.trans (KpS.below hbd)
          have HOd : Hid (KeepsOthers W (Wh.drewN (1 + kd))) := HOh2.out.trans (KeepsOthers.of_grownBy (grown_of hbd) (fun j o ej _ => by cases ej))
          have hszd : W.heap.size ≤ (Wh.drewN (1 + kd)).heap.size := Nat.le_trans hszh hbd.size
          clear hS0 hX1 hX2 hXh2 HLh2 HKh2 HOh2 hbd HBE q1 q2 hwk2
          generalize Wh.drewN (1 + kd) = Wd at *
          by_cases hpq : 0 < sum + cn + q
          · have HPT : Hid (psC cs k [] sum home cs[x.1] = true) := by
              show _ = _
              rw [HPS.out]; simpa using hpq
            obtain ⟨v6, hb6, hrow6⟩ := HLd.out.ls
            obtain ⟨a6, cap6, rfl⟩ := row_shape hrow6
            have HR6 := hide hrow6
            have d5 := hb6.cell
            have ld5 := hb6.lt
            have HBX := hide hb6
            clear hb6 hrow6
            simp only [List.length_nil] at d5
            gi_wp2_with (first
              | (gi_at_builtin
                 refine wpListIn_append_own _ rfl _ _ 24 rfl (w.heap.size + 6) 3 i3 (.int .i64 0) 1 8 Try.underlying24 hi3 hz3 hs3 hb3 rfl (by omega) (.slice a6 0 cap6) 0 (natI []) rfl (HR6.out.alloc _) ⟨Wd.heap.size, 0, none⟩ 1 1 [.int .i64 (x.1.val : Int)] rfl rfl (cell_one_new _ _ _) (by intro u hu; simp at hu; rcases hu with rfl; rfl) (by unfold maxLen; omega) (by omega) (by have := HLd.out.size; simp; omega) ?_
                 intro v7 w7 hown7 hgrow7 _
                 obtain ⟨⟨g7, cap7, rfl⟩, ⟨n2, e2⟩, ⟨n3, e3⟩, ⟨n4, e4⟩, ⟨x1, x2⟩, sz7, lx, hot, hsw⟩ := app_facts HLd.out HBX.out HR6.out hXd hown7 hgrow7
                 have HPUT := hide (HLd.out.put HR6.out hown7 hgrow7 (sum + cn) cb)
                 have HOT := hide hot
                 clear hot)
              | fail)
            have hko := (HOd.out.trans HOT.out).trans (((KeepsOthers.setCell w7 ⟨w.heap.size + 1 + 1, 0, none⟩ (.slice (some ⟨g7, 0, none⟩) (0 + 1) cap7)).trans (KeepsOthers.setCell _ ⟨w.heap.size + 1 + 1 + 1, 0, none⟩ (.int .i64 (sum + cn)))).trans (KeepsOthers.setCell _ ⟨w.heap.size + 1 + 1 + 1 + 1, 0, none⟩ (.int .i64 cb)))
            have ehm : hmOf [] home cs[x.1] = ca := by unfold hmOf; rw [if_pos rfl, HC.out.1]
            refine ⟨hko.from _, rfl, ⟨pre, x, rfl, HI3.out.no, HPT.out, ?_⟩, ?_, HI3.out.mks.others hko⟩
            · rw [HC.out.2.1, HC.out.2.2, ehm]
              exact HPUT.out
            · have h1 := HI3.out.size
              have h2 := hko.size
              exact Nat.le_trans h1 h2
          · have HPT : Hid (psC cs k [] sum home cs[x.1] = false) := by
              show _ = _
              rw [HPS.out]; simpa using hpq
            gi_wp2
            exact ⟨HOd.out.from _, HKd.out, ⟨⟨ca, HLd.out, fun h => absurd rfl h⟩, HI3.out.kp.trans HKd.out, fun y hy => by
              rcases List.mem_append.1 hy with hy | hy
              · exact HI3.out.no y hy
              · have e := List.mem_singleton.1 hy
                rw [e]
                exact HPT.out, Nat.le_trans HI3.out.size hszd, HI3.out.mks.others HOd.out⟩⟩
        · skip
          have ehv : hv2 = home := h2 hpe
          rw [ehv] at h1
          have HLh : Hid (Ls sb w W (k : Int) p sum side home) := h1
          have hXh := bX
          have HKh : Hid (KpS (fun b => b ≠ w.heap.size + 5) W W) := KpS.refl _
          have HOh : Hid (KeepsOthers W W) := KeepsOthers.refl _
          have hpl0 : ¬ ((p.length : Int) = 0) := by have : p.length ≠ 0 := fun h => hpe (List.eq_nil_of_length_eq_zero h); omega
          have hpl1 : ¬ (p.length = 0) := fun h => hpe (List.eq_nil_of_length_eq_zero h)
          clear h1 h2
          refine wpIn_block ?_
          gi_wp2
          have HLh2 := HLh
          have hXh2 := hXh
          have HKh2 := HKh
          have HOh2 := HOh
          have hszh : W.heap.size ≤ W.heap.size := Nat.le_refl _
          clear HLh hXh HKh HOh
          obtain ⟨Wh, hWh⟩ : ∃ Wh, Wh = W := ⟨_, rfl⟩
          rw [← hWh] at HLh2 hXh2 ⊢
          rw [show KpS (fun b => b ≠ w.heap.size + 5) W W = KpS (fun b => b ≠ w.heap.size + 5) W Wh by rw [hWh]] at HKh2
          rw [show KeepsOthers W W = KeepsOthers W Wh by rw [hWh]] at HOh2
          rw [show (W.heap.size ≤ W.heap.size) = (W.heap.size ≤ Wh.heap.size) by rw [hWh]] at hszh
          clear hWh
          have hX1 : Wh.cell? ⟨Bx, 1, none⟩ = some (.int .i64 cn) := by rw [Lib.cell_of_heap hXh2]; rfl
          have hX2 : Wh.cell? ⟨Bx, 2, none⟩ = some (.int .i64 cb) := by rw [Lib.cell_of_heap hXh2]; rfl
          have HBE := hide (best_any sb n v cs L k cb home Wh.drew ((HCY.out.keep HLh2.out.bel).keep (Below.refl _ _).drew) (by omega) hL hn s3 s4 (HHM.out hpe).1 (HHM.out hpe).2)
          obtain ⟨q1, q2⟩ := pb_rng (cs := cs.map ctC) (ct_rng HCN.out) (k := k) (cb + 1).toNat (home + 1).toNat (by omega)
          have HPS : Hid (psC cs k p sum home cs[x.1] = decide (0 < sum + cn + pb (cs.map ctC) k (cb + 1).toNat (home + 1).toNat)) := by
            show _ = _
            unfold psC hmOf
            rw [HC.out.2.1, HC.out.2.2, if_neg hpe]
          generalize pb (cs.map ctC) k (cb + 1).toNat (home + 1).toNat = q at *
          have hwk1 : IntKind.i64.wrap (sum + cn) = sum + cn := by rw [IntKind.wrap_i64]; omega
          have hwk2 : IntKind.i64.wrap (sum + cn + q) = sum + cn + q := by unfold noW at q1; rw [IntKind.wrap_i64]; omega
          have hS0 : Wh.drew.cell? ⟨w.heap.size + 1 + 1 + 1, 0, none⟩ = some (.int .i64 sum) ∧ Wh.drew.cell? ⟨Bx, 1, none⟩ = some (.int .i64 cn) ∧ Wh.drew.cell? ⟨w.heap.size, 0, none⟩ = some (.pointer (some ⟨sb, 0, none⟩)) ∧ Wh.drew.cell? ⟨w.heap.size + 1, 0, none⟩ = some (.int .i64 (k : Int)) ∧ Wh.drew.cell? ⟨Bx, 2, none⟩ = some (.int .i64 cb) ∧ Wh.drew.cell? ⟨w.heap.size + 1 + 1 + 1 + 1 + 1, 0, none⟩ = some (.int .i64 home) := ⟨HLh2.out.sm.cell, hX1, HLh2.out.s.cell, HLh2.out.l.cell, hX2, HLh2.out.hm.cell⟩
          refine region_round (L := 12) (S := fun w' : World => w'.cell? ⟨w.heap.size + 1 + 1 + 1, 0, none⟩ = some (.int .i64 sum) ∧ w'.cell? ⟨Bx, 1, none⟩ = some (.int .i64 cn) ∧ w'.cell? ⟨w.heap.size, 0, none⟩ = some (.pointer (some ⟨sb, 0, none⟩)) ∧ w'.cell? ⟨w.heap.size + 1, 0, none⟩ = some (.int .i64 (k : Int)) ∧ w'.cell? ⟨Bx, 2, none⟩ = some (.int .i64 cb) ∧ w'.cell? ⟨w.heap.size + 1 + 1 + 1 + 1 + 1, 0, none⟩ = some (.int .i64 home)) (by kernel_rfl) (by kernel_rfl) (by intro h; obtain ⟨_, _, h⟩ := h; exact h) ?_
          refine anyE_take2 0 (v := ?v10) rfl (by kernel_rfl) (by kernel_rfl) (by kernel_rfl) (by kernel_rfl) (fun _ _ _ h => h) (by rfl) ?hy10 hS0 ?rest10
          case hy10 =>
            intro wx hx
            obtain ⟨m0, m1, m2, m3, m4, m5⟩ := hx
            go_simp
            try rfl
          case rest10 =>
          intro K2 hK2
          go_simp
          refine hK2.out _ ?_
          clear hK2 K2
          refine anyE_take2 1 (v := ?v11) rfl (by kernel_rfl) (by kernel_rfl) (by kernel_rfl) (by kernel_rfl) (fun _ _ _ h => h) (by rfl) ?hy11 hS0 ?rest11
          case hy11 =>
            intro wx hx
            obtain ⟨m0, m1, m2, m3, m4, m5⟩ := hx
            go_simp
            try rfl
          case rest11 =>
          intro K2 hK2
          go_simp
          refine hK2.out _ ?_
          clear hK2 K2
          refine anyE_take2 2 (v := ?v12) rfl (by kernel_rfl) (by kernel_rfl) (by kernel_rfl) (by kernel_rfl) (fun _ _ _ h => h) (by rfl) ?hy12 hS0 ?rest12
          case hy12 =>
            intro wx hx
            obtain ⟨m0, m1, m2, m3, m4, m5⟩ := hx
            go_simp
            try rfl
          case rest12 =>
          intro K2 hK2
          go_simp
          refine hK2.out _ ?_
          clear hK2 K2
          refine anyE_take2 3 (v := ?v13) rfl (by kernel_rfl) (by kernel_rfl) (by kernel_rfl) (by kernel_rfl) (fun _ _ _ h => h) (by rfl) ?hy13 hS0 ?rest13
          case hy13 =>
            intro wx hx
            obtain ⟨m0, m1, m2, m3, m4, m5⟩ := hx
            go_simp
            try rfl
          case rest13 =>
          intro K2 hK2
          go_simp
          refine hK2.out _ ?_
          clear hK2 K2
          refine anyE_take2 4 (v := ?v14) rfl (by kernel_rfl) (by kernel_rfl) (by kernel_rfl) (by kernel_rfl) (fun _ _ _ h => h) (by rfl) ?hy14 hS0 ?rest14
          case hy14 =>
            intro wx hx
            obtain ⟨m0, m1, m2, m3, m4, m5⟩ := hx
            go_simp
            try rfl
          case rest14 =>
          intro K2 hK2
          go_simp
          refine hK2.out _ ?_
          clear hK2 K2
          refine anyE_take2 5 (v := ?v15) rfl (by kernel_rfl) (by kernel_rfl) (by kernel_rfl) (by kernel_rfl) (fun _ _ _ h => h) (by rfl) ?hy15 hS0 ?rest15
          case hy15 =>
            intro wx hx
            obtain ⟨m0, m1, m2, m3, m4, m5⟩ := hx
            go_simp
            try rfl
          case rest15 =>
          intro K2 hK2
          go_simp
          refine hK2.out _ ?_
          clear hK2 K2
          refine anyE_take2 6 (v := ?v16) rfl (by kernel_rfl) (by kernel_rfl) (by kernel_rfl) (by kernel_rfl) (fun _ _ _ h => h) (by rfl) ?hy16 hS0 ?rest16
          case hy16 =>
            intro wx hx
            obtain ⟨m0, m1, m2, m3, m4, m5⟩ := hx
            go_simp
            try rfl
          case rest16 =>
          intro K2 hK2
          go_simp
          refine hK2.out _ ?_
          clear hK2 K2
          refine anyE_take2 7 (v := ?v17) rfl (by kernel_rfl) (by kernel_rfl) (by kernel_rfl) (by kernel_rfl) (fun _ _ _ h => h) (by rfl) ?hy17 hS0 ?rest17
          case hy17 =>
            intro wx hx
            obtain ⟨m0, m1, m2, m3, m4, m5⟩ := hx
            go_simp
            try rfl
          case rest17 =>
          intro K2 hK2
          go_simp
          refine hK2.out _ ?_
          clear hK2 K2
          refine anyE_take2 8 (v := ?v18) rfl (by kernel_rfl) (by kernel_rfl) (by kernel_rfl) (by kernel_rfl) (fun _ _ _ h => h) (by rfl) ?hy18 hS0 ?rest18
          case hy18 =>
            intro wx hx
            obtain ⟨m0, m1, m2, m3, m4, m5⟩ := hx
            go_simp
            try rfl
          case rest18 =>
          intro K2 hK2
          go_simp
          refine hK2.out _ ?_
          clear hK2 K2
          refine anyE_one 9 (by kernel_rfl) rfl (fun K2 hK2 => ?_)
          go_simp
          refine (HBE.out).mono ?_
          rintro e w5 ⟨kd, rfl, rfl⟩
          refine hK2.out _ _ (fun _ => hS0) ?_
          clear hK2 K2
          refine anyE_one 10 (by kernel_rfl) rfl (fun K2 hK2 => ?_)
          go_simp
          refine hK2.out _ _ (fun _ => hS0) ?_
          clear hK2 K2
          refine anyE_one 11 (by kernel_rfl) rfl (fun K2 hK2 => ?_)
          go_simp
          refine hK2.out _ _ (fun _ => hS0) ?_
          clear hK2 K2
          refine anyE_done (by kernel_rfl) ?_ _
          have hbd : Below Wh.heap.size Wh (Wh.drewN (1 + kd)) := below_drewN (Below.refl _ _) _
          have HLd := hide (HLh2.out.keep hbd)
          have hXd : (Wh.drewN (1 + kd)).heap[Bx]? = some (.cells #[.int .i64 ca, .int .i64 cn, .int .i64 cb] 42 (0, 0)) := hXh2
          have HKd : Hid (KpS (fun b => b ≠ w.heap.size + 5) W (Wh.drewN (1 + kd))) := HKh2.out.trans (KpS.below hbd)
          have HOd : Hid (KeepsOthers W (Wh.drewN (1 + kd))) := HOh2.out.trans (KeepsOthers.of_grownBy (grown_of hbd) (fun j o ej _ => by cases ej))
          have hszd : W.heap.size ≤ (Wh.drewN (1 + kd)).heap.size := Nat.le_trans hszh hbd.size
          clear hS0 hX1 hX2 hXh2 HLh2 HKh2 HOh2 hbd HBE q1 q2 hwk2
          generalize Wh.drewN (1 + kd) = Wd at *
          by_cases hpq : 0 < sum + cn + q
          · have HPT : Hid (psC cs k p sum home cs[x.1] = true) := by
              show _ = _
              rw [HPS.out]; simpa using hpq
            obtain ⟨v6, hb6, hrow6⟩ := HLd.out.ls
            obtain ⟨a6, cap6, rfl⟩ := row_shape hrow6
            have HR6 := hide hrow6
            have d5 := hb6.cell
            have ld5 := hb6.lt
            have HBX := hide hb6
            clear hb6 hrow6
            skip
            gi_wp2_with (first
              | (gi_at_builtin
                 refine wpListIn_append_own _ rfl _ _ 24 rfl (w.heap.size + 6) 3 i3 (.int .i64 0) 1 8 Try.underlying24 hi3 hz3 hs3 hb3 rfl (by omega) (.slice a6 p.length cap6) p.length (natI p) rfl (HR6.out.alloc _) ⟨Wd.heap.size, 0, none⟩ 1 1 [.int .i64 (x.1.val : Int)] rfl rfl (cell_one_new _ _ _) (by intro u hu; simp at hu; rcases hu with rfl; rfl) (by unfold maxLen; omega) (by omega) (by have := HLd.out.size; simp; omega) ?_
                 intro v7 w7 hown7 hgrow7 _
                 obtain ⟨⟨g7, cap7, rfl⟩, ⟨n2, e2⟩, ⟨n3, e3⟩, ⟨n4, e4⟩, ⟨x1, x2⟩, sz7, lx, hot, hsw⟩ := app_facts HLd.out HBX.out HR6.out hXd hown7 hgrow7
                 have HPUT := hide (HLd.out.put HR6.out hown7 hgrow7 (sum + cn) cb)
                 have HOT := hide hot
                 clear hot)
              | fail)
            have hko := (HOd.out.trans HOT.out).trans (((KeepsOthers.setCell w7 ⟨w.heap.size + 1 + 1, 0, none⟩ (.slice (some ⟨g7, 0, none⟩) (p.length + 1) cap7)).trans (KeepsOthers.setCell _ ⟨w.heap.size + 1 + 1 + 1, 0, none⟩ (.int .i64 (sum + cn)))).trans (KeepsOthers.setCell _ ⟨w.heap.size + 1 + 1 + 1 + 1, 0, none⟩ (.int .i64 cb)))
            have ehm : hmOf p home cs[x.1] = home := by unfold hmOf; rw [if_neg hpe]
            refine ⟨hko.from _, rfl, ⟨pre, x, rfl, HI3.out.no, HPT.out, ?_⟩, ?_, HI3.out.mks.others hko⟩
            · rw [HC.out.2.1, HC.out.2.2, ehm]
              exact HPUT.out
            · have h1 := HI3.out.size
              have h2 := hko.size
              exact Nat.le_trans h1 h2
          · have HPT : Hid (psC cs k p sum home cs[x.1] = false) := by
              show _ = _
              rw [HPS.out]; simpa using hpq
            gi_wp2
            exact ⟨HOd.out.from _, HKd.out, ⟨⟨home, HLd.out, fun h => rfl⟩, HI3.out.kp.trans HKd.out, fun y hy => by
              rcases List.mem_append.1 hy with hy | hy
              · exact HI3.out.no y hy
              · have e := List.mem_singleton.1 hy
                rw [e]
                exact HPT.out, Nat.le_trans HI3.out.size hszd, HI3.out.mks.others HOd.out⟩⟩
      case done =>
        rintro D xs W hD hS hI3 hK3
        exact (none_pass ht HTM.out.1 HTM.out.2.1 hS hI3.no).elim
      case stop =>
        rintro D c pre W hD ⟨q, hq, hpre⟩ ⟨rfl, hX⟩ hK3
        obtain ⟨pre0, x, hpx, hno, hps, hls⟩ := hX.put
        rw [hpx] at hpre
        have ext := first_pass ht HTM.out.1 HTM.out.2.1 HTM.out.2.2 hpre hno hps
        have ecs : cs[x.1] = cs[t] := by
          show cs[x.1.val] = cs[t]
          simp only [ext]
        rw [ecs, ext] at hls
        have HL := hide hls
        have HMX := hide ((hX.mks.cons (by omega) hK3 (fun hd => by have := HLT.out D hd; omega)).set hls.l (.int .i64 ((k : Int) - 1)))
        obtain ⟨s1, s2, s3, s4, s5, s6⟩ := HS4.out t ht
        have c1 := hls.l.cell
        have f1 := hls.l.frozen
        have l1 := hls.l.lt
        have hwk : IntKind.i64.wrap ((k : Int) - 1) = (k : Int) - 1 := by rw [IntKind.wrap_i64]; omega
        have HHM2 : Hid (-1 ≤ hmOf p home cs[t] ∧ hmOf p home cs[t] < n) := by
          show _ ∧ _
          unfold hmOf
          by_cases hpe : p = []
          · rw [if_pos hpe]; exact ⟨s1, s2⟩
          · rw [if_neg hpe]; exact HHM.out hpe
        have HSB : Hid (-1000 * ((l : Int) + 1 - k) ≤ sum + cs[t].n ∧ sum + cs[t].n ≤ 1000 * ((l : Int) + 1 - k)) := by
          show _ ∧ _
          omega
        have HSD : Hid (-1 ≤ cs[t].b ∧ cs[t].b < n) := ⟨s3, s4⟩
        have HPL : Hid ((p ++ [t]).length + k ≤ l + 1) := by
          show _ ≤ _
          rw [List.length_append, List.length_singleton]
          omega
        clear hls hX hK3 hpre hno hps ecs ext hpx s1 s2 s3 s4 s5 s6 hu1 hu2 hkl
        gi_wp2
        refine Handed.intro k (by omega) (HJ2.out k _ _ ?_)
        exact ⟨p ++ [t], sum + cs[t].n, cs[t].b, hmOf p home cs[t], hmOf p home cs[t], D :: ds, HPL.out, HL.out.left _, fun _ => rfl, HSD.out.1, HSD.out.2, fun _ => HHM2.out, HSB.out.1, HSB.out.2, HTN.out, HMX.out, _, _, _, _, _, _, _, _, _, _, _, _, _, _, _, _, _, _, _, _, _, _, _, _, _, _, _, _, _, _, _, _, _, _, _, _, _, _, _, rfl⟩
end Go.Proofs.Yteedainidoldoaa
