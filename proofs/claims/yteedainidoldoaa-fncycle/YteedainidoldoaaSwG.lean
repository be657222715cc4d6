/- The program's firstCycle. -/
import Derived.Test.YteedainidoldoaaSwF
import Derived.WalkMore
namespace Go.Proofs.Yteedainidoldoaa
open Go.ChangeShapes Go.WideShapes Go.ChangeAt Go.RowKit

theorem firstI_some {n : Nat} {cs : List Ct} {l s : Nat} (hl : l ≤ n) (hs : s < cs.length) (hq : cyQ cs l s = true) (hno : ∀ l' s', l' < l → s' < cs.length → cyQ cs l' s' = false) (hmin : ∀ t, t < s → cyQ cs l t = false) : firstI n cs = lst cs l s := by
  obtain ⟨o, h1, h2⟩ := firstI_least n cs
  have h3 : LeastP (cyQ cs) n cs.length (some (l, s)) := by
    refine ⟨hl, hs, hq, fun l' s' h4 h5 h6 => ?_⟩
    by_cases e : l' < l
    · rw [hno l' s' e h5] at h6; cases h6
    · by_cases e2 : l' = l
      · subst e2
        by_cases e3 : s' < s
        · rw [hmin s' e3] at h6; cases h6
        · omega
      · omega
  have e := least_uniq h1 h3
  subst e
  exact h2
theorem firstI_none {n : Nat} {cs : List Ct} (h : ∀ l s, l < n + 1 → s < cs.length → cyQ cs l s = false) : firstI n cs = [] := by
  obtain ⟨o, h1, h2⟩ := firstI_least n cs
  have h3 : LeastP (cyQ cs) n cs.length none := fun l s h4 h5 => h l s (by omega) h5
  have e := least_uniq h1 h3
  subst e
  exact h2
theorem ints_side {W : World} {v x : Value} {ks : List Int} {b o : Nat} (h : IntsAt W v ks) (hc : W.cell? ⟨b, o, none⟩ = some x) (hx : ∀ k : Int, x ≠ .int .i64 k) (u : Value) : IntsAt (W.setCell ⟨b, o, none⟩ u) v ks := by
  obtain ⟨a, cap, hv, h1, h2, h3⟩ := h
  refine ⟨a, cap, hv, h1, h2, fun h0 => ?_⟩
  obtain ⟨b2, off, ha, hc2⟩ := h3 h0
  refine ⟨b2, off, ha, fun j hj => ?_⟩
  have hj2 := hc2 j hj
  rw [World.cell?_setCell_other _ _ _ _ (by
    intro e
    rw [← e, hc] at hj2
    exact hx _ (Option.some.inj hj2))]
  exact hj2
theorem cons_side {W : World} {v x : Value} {cs : List Cn} {b o : Nat} (h : ConsAt W v cs) (hc : W.cell? ⟨b, o, none⟩ = some x) (hx : ∀ k : Int, x ≠ .int .i64 k) (u : Value) : ConsAt (W.setCell ⟨b, o, none⟩ u) v cs := by
  obtain ⟨a, cap, hv, h1, h2, h3⟩ := h
  refine ⟨a, cap, hv, h1, h2, fun h0 => ?_⟩
  obtain ⟨b2, off, ha, hc2⟩ := h3 h0
  have side : ∀ o2 (k : Int), W.cell? ⟨b2, o2, none⟩ = some (.int .i64 k) → (W.setCell ⟨b, o, none⟩ u).cell? ⟨b2, o2, none⟩ = some (.int .i64 k) := fun o2 k hk => by
    rw [World.cell?_setCell_other _ _ _ _ (by
      intro e
      rw [← e, hc] at hk
      exact hx _ (Option.some.inj hk))]
    exact hk
  exact ⟨b2, off, ha, fun i hi => ⟨side _ _ (hc2 i hi).1, side _ _ (hc2 i hi).2.1, side _ _ (hc2 i hi).2.2⟩⟩
/-- A search whose table is being filled. -/
structure Cz (W : World) (sb n : Nat) (v : Value) (cs : List Cn) (L : Nat) : Prop where
  cy : Cy W sb n v cs L
  rest : ∀ l, L ≤ l → l < 31 → W.cell? ⟨sb, 2 + l, none⟩ = some (.slice none 0 0)
  frz : ∀ j, W.frozen? ⟨sb, j, none⟩ = false
theorem Cz.keep {W W' : World} {sb n : Nat} {v : Value} {cs : List Cn} {L : Nat} (h : Cz W sb n v cs L) (hb : Below W.heap.size W W') : Cz W' sb n v cs L :=
  ⟨h.cy.keep hb, fun l h1 h2 => keep_cell hb (h.rest l h1 h2), fun j => by rw [hb.frozen (p := ⟨sb, j, none⟩) (lt_cell h.cy.cn)]; exact h.frz j⟩
theorem Cz.put {W : World} {sb n : Nat} {v r : Value} {cs : List Cn} {L : Nat} (h : Cz W sb n v cs L) (hL : L < 31) (hr : IntsAt W r (tab n (cs.map ctC) L)) : Cz (W.setCell ⟨sb, 2 + L, none⟩ r) sb n v cs (L + 1) := by
  have hc := h.rest L (Nat.le_refl _) hL
  have hx : ∀ k : Int, Value.slice none 0 0 ≠ .int .i64 k := fun k e => by cases e
  have other : ∀ o u, o ≠ 2 + L → W.cell? ⟨sb, o, none⟩ = some u → (W.setCell ⟨sb, 2 + L, none⟩ r).cell? ⟨sb, o, none⟩ = some u := fun o u hne hu => by
    rw [World.cell?_setCell_other _ _ _ _ (by intro e; cases e; exact hne rfl)]; exact hu
  refine ⟨⟨other _ _ (by omega) h.cy.cn, other _ _ (by omega) h.cy.cc, cons_side h.cy.cons hc hx _, fun l hl => ?_⟩, fun l h1 h2 => other _ _ (by omega) (h.rest l (by omega) h2), fun j => by rw [World.frozen?_setCell]; exact h.frz j⟩
  by_cases e : l = L
  · subst e
    exact ⟨r, World.cell?_setCell_same _ _ _ hc, ints_side hr hc hx _⟩
  · obtain ⟨r2, h1, h2⟩ := h.cy.rows l (by omega)
    exact ⟨r2, other _ _ (by omega) h1, ints_side h2 hc hx _⟩
theorem cz_new (w : World) (n : Nat) (v : Value) (cs : List Cn) (C : Array Value) (hC : C = #[.int .i64 (n : Int), v] ++ Array.replicate 31 (.slice none 0 0)) (hn : ConsAt w v cs) : Cz (w.alloc (.cells C 72)) w.heap.size n v cs 0 := by
  subst hC
  refine ⟨⟨by rw [World.cell?_alloc_new, Array.getElem?_append_left (by simp)]; rfl, by rw [World.cell?_alloc_new, Array.getElem?_append_left (by simp)]; rfl, hn.keep (bel_alloc (Below.refl _ _) _), fun l hl => by omega⟩, fun l _ h2 => ?_, fun j => World.frozen?_alloc_new _ _ _ _⟩
  rw [World.cell?_alloc_new]
  rw [Array.getElem?_append_right (by simp)]
  simp [h2]
theorem cz_lit (x y : Value) : (#[x, y, Value.slice none 0 0, Value.slice none 0 0, Value.slice none 0 0, Value.slice none 0 0, Value.slice none 0 0, Value.slice none 0 0, Value.slice none 0 0, Value.slice none 0 0, Value.slice none 0 0, Value.slice none 0 0, Value.slice none 0 0, Value.slice none 0 0, Value.slice none 0 0, Value.slice none 0 0, Value.slice none 0 0, Value.slice none 0 0, Value.slice none 0 0, Value.slice none 0 0, Value.slice none 0 0, Value.slice none 0 0, Value.slice none 0 0, Value.slice none 0 0, Value.slice none 0 0, Value.slice none 0 0, Value.slice none 0 0, Value.slice none 0 0, Value.slice none 0 0, Value.slice none 0 0, Value.slice none 0 0, Value.slice none 0 0, Value.slice none 0 0] : Array Value) = #[x, y] ++ Array.replicate 31 (.slice none 0 0) := by
  refine Array.toList_inj.1 ?_
  rw [Array.toList_append, Array.toList_replicate]
  rfl
set_option maxRecDepth 20000 in
set_option maxHeartbeats 8000000 in
theorem firstCycle_any (n : Nat) (v : Value) (cs : List Cn) (w : World) (hn : ConsAt w v cs) (hok : consB n cs = true) :
    Calls Try.prog 26 #[.int .i64 n, v] w fun e w' => ∃ v', e = .returned v' ∧ w'.ownsRow w.heap.size 3 1 v' (firstI n (cs.map ctC)).length (natI (firstI n (cs.map ctC))) ∧ Below w.heap.size w w' := by
  have HN := hide hn
  obtain ⟨a2, cap2, rfl, hlc2, hcm2, hc2⟩ := hn
  unfold maxLen at hcm2
  have HOK := hide hok
  obtain ⟨⟨g1, g2, g3⟩, g4⟩ := consB_yes hok
  have HS4 := hide g4
  have HCN : Hid (∀ c ∈ cs, -1000 ≤ c.n ∧ c.n ≤ 1000) := by
    intro c hc
    obtain ⟨j, hj, rfl⟩ := List.getElem_of_mem hc
    exact (g4 j hj).2.2.2.2
  clear hc2 hok g4
  have hn30 : n ≤ 30 := by omega
  have hw0 : IntKind.i64.wrap ((n : Int) + 1) = (n : Int) + 1 := by rw [IntKind.wrap_i64]; omega
  go_enter Try.func26, Try.ntmps26
  go_wp2_with fail
  go_step3
  go_wp2_with fail
  go_step3
  go_wp2_with fail
  go_loopw [6, 16] (fun lv iv wr => ∃ k : Nat, k ≤ n + 1 ∧ iv = .int .i64 k ∧ lv = .slice none 0 0 ∧ Hid (∀ l s, l < k → s < (cs.map ctC).length → cyQ (cs.map ctC) l s = false) ∧ Hid (Cz wr w.heap.size n (.slice a2 cs.length cap2) cs k) ∧ Hid (Below w.heap.size w wr)) (fun _ iv _ => n + 1 - (intOf iv).toNat)
  case atStart => exact ⟨0, by omega, rfl, rfl, fun l s h => by omega, cz_new w n _ cs _ (cz_lit _ _) HN.out, bel_alloc (Below.refl _ _) _⟩
  case round =>
    obtain ⟨k, hk, rfl, rfl, HNO, HZ, HB⟩ := hrel
    by_cases hlt : k < n + 1
    · have hlt' : (k : Int) < (n : Int) + 1 := by omega
      have hk31 : k < 31 := by omega
      have hk31' : (k : Int) < 31 := by omega
      have HROW := hide (row_any w.heap.size n (.slice a2 cs.length cap2) cs k k wr.drew (HZ.out.cy.keep (Below.refl _ _).drew) (Nat.le_refl _) (by omega) hn30 HOK.out)
      go_wp2_with fail
      refine anyE_region (L := 9) (S := fun _ : World => True) (by kernel_rfl) ?_
      refine anyE_take2 0 (v := ?v1) rfl (by kernel_rfl) (by kernel_rfl) (by kernel_rfl) (by kernel_rfl) (fun _ _ _ h => h) (by rfl) ?hy1 trivial ?rest1
      case hy1 =>
        intro wx hx
        obtain _ := hx
        go_simp
        try rfl
      case rest1 =>
      intro K2 hK2
      go_simp
      refine hK2.out _ ?_
      clear hK2 K2
      refine anyE_take2 1 (v := ?v2) rfl (by kernel_rfl) (by kernel_rfl) (by kernel_rfl) (by kernel_rfl) (fun _ _ _ h => h) (by rfl) ?hy2 trivial ?rest2
      case hy2 =>
        intro wx hx
        obtain _ := hx
        go_simp
        try rfl
      case rest2 =>
      intro K2 hK2
      go_simp
      refine hK2.out _ ?_
      clear hK2 K2
      refine anyE_take2 2 (v := ?v3) rfl (by kernel_rfl) (by kernel_rfl) (by kernel_rfl) (by kernel_rfl) (fun _ _ _ h => h) (by rfl) ?hy3 trivial ?rest3
      case hy3 =>
        intro wx hx
        obtain _ := hx
        go_simp
        try rfl
      case rest3 =>
      intro K2 hK2
      go_simp
      refine hK2.out _ ?_
      clear hK2 K2
      refine anyE_take2 3 (v := ?v4) rfl (by kernel_rfl) (by kernel_rfl) (by kernel_rfl) (by kernel_rfl) (fun _ _ _ h => h) (by rfl) ?hy4 trivial ?rest4
      case hy4 =>
        intro wx hx
        obtain _ := hx
        go_simp
        try rfl
      case rest4 =>
      intro K2 hK2
      go_simp
      refine hK2.out _ ?_
      clear hK2 K2
      refine anyE_take2 5 (v := ?v5) rfl (by kernel_rfl) (by kernel_rfl) (by kernel_rfl) (by kernel_rfl) (fun _ _ _ h => h) (by rfl) ?hy5 trivial ?rest5
      case hy5 =>
        intro wx hx
        obtain _ := hx
        go_simp
        try rfl
      case rest5 =>
      intro K2 hK2
      go_simp
      refine hK2.out _ ?_
      clear hK2 K2
      refine anyE_take2 6 (v := ?v6) rfl (by kernel_rfl) (by kernel_rfl) (by kernel_rfl) (by kernel_rfl) (fun _ _ _ h => h) (by rfl) ?hy6 trivial ?rest6
      case hy6 =>
        intro wx hx
        obtain _ := hx
        go_simp
        try rfl
      case rest6 =>
      intro K2 hK2
      go_simp
      refine hK2.out _ ?_
      clear hK2 K2
      refine anyE_one 4 (by kernel_rfl) rfl (fun K2 hK2 => ?_)
      go_simp
      refine (HROW.out).mono ?_
      rintro e w5 ⟨v5, rfl, hi5, hb5⟩
      have HI5 := hide hi5
      obtain ⟨a5, n5, cap5, rfl⟩ : ∃ a n c, v5 = .slice a n c := by obtain ⟨a, c, h, _⟩ := hi5; exact ⟨a, _, c, h⟩
      refine hK2.out _ _ (fun _ => trivial) ?_
      clear hK2 K2
      refine anyE_one 7 (by kernel_rfl) rfl (fun K2 hK2 => ?_)
      go_simp
      refine hK2.out _ _ (fun _ => trivial) ?_
      clear hK2 K2
      have hb5 : Below wr.heap.size wr w5 := (Below.refl wr.heap.size wr).drew.trans hb5
      have HZ5 := hide (HZ.out.keep hb5)
      have HB5 := hide (bel_trans HB.out hb5)
      have d5 := HZ5.out.rest k (Nat.le_refl _) hk31
      have f5 := HZ5.out.frz (2 + k)
      have l5 := lt_cell d5
      clear hb5 hi5
      refine anyE_one 8 (by kernel_rfl) rfl (fun K2 hK2 => ?_)
      go_simp
      refine hK2.out _ _ (fun _ => trivial) ?_
      clear hK2 K2
      refine anyE_done (by kernel_rfl) ?_ _
      have HZ6 := hide (HZ5.out.put hk31 HI5.out)
      have HB6 : Hid (Below w.heap.size w (w5.setCell ⟨w.heap.size, 2 + k, none⟩ (.slice a5 n5 cap5))) := HB5.out.setCell (p := ⟨_, _, _⟩) (Nat.le_refl _) _
      clear d5 f5 l5 HZ5 HI5 HB5 HZ HB HROW
      generalize w5.setCell ⟨w.heap.size, 2 + k, none⟩ (.slice a5 n5 cap5) = w6 at *
      go_wp2_with fail
      go_loopw [6, 29] (fun lv iv wr => ∃ i : Nat, i ≤ cs.length ∧ iv = .int .i64 i ∧ lv = .slice none 0 0 ∧ Hid (∀ s, s < i → cyQ (cs.map ctC) k s = false) ∧ Hid (Cz wr w.heap.size n (.slice a2 cs.length cap2) cs (k + 1)) ∧ Hid (Below w.heap.size w wr)) (fun _ iv _ => cs.length - (intOf iv).toNat)
      case atStart => exact ⟨0, by omega, rfl, rfl, fun s h => by omega, HZ6, HB6⟩
      case round =>
        clear HZ6 HB6
        obtain ⟨i, hi, rfl, rfl, HNI, HZ, HB⟩ := hrel
        by_cases hil : i < cs.length
        · have hil' : (i : Int) < cs.length := by omega
          obtain ⟨_, _, e3, _, _, hc3⟩ := HZ.out.cy.cons
          obtain ⟨b, off, ha3, hc⟩ := hc3 (by omega)
          cases e3
          subst ha3
          obtain ⟨c1, c2, c3⟩ := hc i hil
          have hbl := lt_cell c1
          obtain ⟨s1, s2, s3, s4, s5, s6⟩ := HS4.out i hil
          have HQ : Hid (cyQ (cs.map ctC) k i = decide (0 < cs[i].n + pb (cs.map ctC) k (cs[i].b + 1).toNat (cs[i].a + 1).toNat)) := by
            show _ = _
            rw [pb_gt (ct_rng HCN.out) (by omega) (by omega)]
            unfold cyQ
            rw [cAt_map hil]
            rfl
          obtain ⟨q1, q2⟩ := pb_rng (cs := cs.map ctC) (ct_rng HCN.out) (k := k) (cs[i].b + 1).toNat (cs[i].a + 1).toNat (by omega)
          obtain ⟨W4, hW4⟩ : ∃ W4, W4 = wr.alloc (.cells #[.int .i64 cs[i].a, .int .i64 cs[i].n, .int .i64 cs[i].b] 42) := ⟨_, rfl⟩
          have hb4 : Below wr.heap.size wr W4 := by rw [hW4]; exact bel_alloc (Below.refl _ _) _
          have HZ4 := hide (HZ.out.keep hb4)
          have HB4 := hide (bel_trans HB.out hb4)
          have HBE := hide (best_any w.heap.size n (.slice (some ⟨b, off, none⟩) cs.length cap2) cs (k + 1) k cs[i].b cs[i].a W4.drew (HZ4.out.cy.keep (Below.refl _ _).drew) (by omega) (by omega) hn30 s3 s4 s1 s2)
          have y0 : W4.cell? ⟨wr.heap.size, 0, none⟩ = some (.int .i64 cs[i].a) := by rw [hW4, World.cell?_alloc_new]; rfl
          have y1 : W4.cell? ⟨wr.heap.size, 1, none⟩ = some (.int .i64 cs[i].n) := by rw [hW4, World.cell?_alloc_new]; rfl
          have y2 : W4.cell? ⟨wr.heap.size, 2, none⟩ = some (.int .i64 cs[i].b) := by rw [hW4, World.cell?_alloc_new]; rfl
          generalize cs[i].a = ca at *
          generalize cs[i].n = cn at *
          generalize cs[i].b = cb at *
          generalize pb (cs.map ctC) k (cb + 1).toNat (ca + 1).toNat = q at *
          have hwq : IntKind.i64.wrap (cn + q) = cn + q := by unfold noW at q1; rw [IntKind.wrap_i64]; omega
          have hS0 : W4.drew.cell? ⟨wr.heap.size, 0, none⟩ = some (.int .i64 ca) ∧ W4.drew.cell? ⟨wr.heap.size, 1, none⟩ = some (.int .i64 cn) ∧ W4.drew.cell? ⟨wr.heap.size, 2, none⟩ = some (.int .i64 cb) := ⟨y0, y1, y2⟩
          clear hc hc3 y0 y1 y2 q1 q2 hb4
          go_wp2_with fail
          rw [← hW4]
          clear hW4 c1 c2 c3 hbl
          refine anyE_region (L := 11) (S := fun w' : World => w'.cell? ⟨wr.heap.size, 0, none⟩ = some (.int .i64 ca) ∧ w'.cell? ⟨wr.heap.size, 1, none⟩ = some (.int .i64 cn) ∧ w'.cell? ⟨wr.heap.size, 2, none⟩ = some (.int .i64 cb)) (by kernel_rfl) ?_
          refine anyE_take2 0 (v := ?v7) rfl (by kernel_rfl) (by kernel_rfl) (by kernel_rfl) (by kernel_rfl) (fun _ _ _ h => h) (by rfl) ?hy7 hS0 ?rest7
          case hy7 =>
            intro wx hx
            obtain ⟨m0, m1, m2⟩ := hx
            go_simp
            try rfl
          case rest7 =>
          intro K2 hK2
          go_simp
          refine hK2.out _ ?_
          clear hK2 K2
          refine anyE_take2 1 (v := ?v8) rfl (by kernel_rfl) (by kernel_rfl) (by kernel_rfl) (by kernel_rfl) (fun _ _ _ h => h) (by rfl) ?hy8 hS0 ?rest8
          case hy8 =>
            intro wx hx
            obtain ⟨m0, m1, m2⟩ := hx
            go_simp
            try rfl
          case rest8 =>
          intro K2 hK2
          go_simp
          refine hK2.out _ ?_
          clear hK2 K2
          refine anyE_take2 2 (v := ?v9) rfl (by kernel_rfl) (by kernel_rfl) (by kernel_rfl) (by kernel_rfl) (fun _ _ _ h => h) (by rfl) ?hy9 hS0 ?rest9
          case hy9 =>
            intro wx hx
            obtain ⟨m0, m1, m2⟩ := hx
            go_simp
            try rfl
          case rest9 =>
          intro K2 hK2
          go_simp
          refine hK2.out _ ?_
          clear hK2 K2
          refine anyE_take2 3 (v := ?v10) rfl (by kernel_rfl) (by kernel_rfl) (by kernel_rfl) (by kernel_rfl) (fun _ _ _ h => h) (by rfl) ?hy10 hS0 ?rest10
          case hy10 =>
            intro wx hx
            obtain ⟨m0, m1, m2⟩ := hx
            go_simp
            try rfl
          case rest10 =>
          intro K2 hK2
          go_simp
          refine hK2.out _ ?_
          clear hK2 K2
          refine anyE_take2 4 (v := ?v11) rfl (by kernel_rfl) (by kernel_rfl) (by kernel_rfl) (by kernel_rfl) (fun _ _ _ h => h) (by rfl) ?hy11 hS0 ?rest11
          case hy11 =>
            intro wx hx
            obtain ⟨m0, m1, m2⟩ := hx
            go_simp
            try rfl
          case rest11 =>
          intro K2 hK2
          go_simp
          refine hK2.out _ ?_
          clear hK2 K2
          refine anyE_take2 5 (v := ?v12) rfl (by kernel_rfl) (by kernel_rfl) (by kernel_rfl) (by kernel_rfl) (fun _ _ _ h => h) (by rfl) ?hy12 hS0 ?rest12
          case hy12 =>
            intro wx hx
            obtain ⟨m0, m1, m2⟩ := hx
            go_simp
            try rfl
          case rest12 =>
          intro K2 hK2
          go_simp
          refine hK2.out _ ?_
          clear hK2 K2
          refine anyE_take2 6 (v := ?v13) rfl (by kernel_rfl) (by kernel_rfl) (by kernel_rfl) (by kernel_rfl) (fun _ _ _ h => h) (by rfl) ?hy13 hS0 ?rest13
          case hy13 =>
            intro wx hx
            obtain ⟨m0, m1, m2⟩ := hx
            go_simp
            try rfl
          case rest13 =>
          intro K2 hK2
          go_simp
          refine hK2.out _ ?_
          clear hK2 K2
          refine anyE_take2 7 (v := ?v14) rfl (by kernel_rfl) (by kernel_rfl) (by kernel_rfl) (by kernel_rfl) (fun _ _ _ h => h) (by rfl) ?hy14 hS0 ?rest14
          case hy14 =>
            intro wx hx
            obtain ⟨m0, m1, m2⟩ := hx
            go_simp
            try rfl
          case rest14 =>
          intro K2 hK2
          go_simp
          refine hK2.out _ ?_
          clear hK2 K2
          refine anyE_one 8 (by kernel_rfl) rfl (fun K2 hK2 => ?_)
          go_simp
          refine (HBE.out).mono ?_
          rintro e w7 ⟨kd, rfl, rfl⟩
          refine hK2.out _ _ (fun _ => hS0) ?_
          clear hK2 K2
          refine anyE_one 9 (by kernel_rfl) rfl (fun K2 hK2 => ?_)
          go_simp
          refine hK2.out _ _ (fun _ => hS0) ?_
          clear hK2 K2
          refine anyE_one 10 (by kernel_rfl) rfl (fun K2 hK2 => ?_)
          go_simp
          refine hK2.out _ _ (fun _ => hS0) ?_
          clear hK2 K2
          refine anyE_done (by kernel_rfl) ?_ _
          have hbd : Below W4.heap.size W4 (W4.drewN (1 + kd)) := below_drewN (Below.refl _ _) _
          have HZd := hide (HZ4.out.keep hbd)
          have HBd := hide (bel_trans HB4.out hbd)
          clear hS0 HBE hbd HZ4 HB4 HZ HB
          generalize W4.drewN (1 + kd) = Wd at *
          by_cases hpq : 0 < cn + q
          · have hcq : cyQ (cs.map ctC) k i = true := by rw [HQ.out]; simpa using hpq
            have HLI := hide (list_any w.heap.size n _ cs (k + 1) k Wd HZd.out.cy (by omega) (by omega) hn30 HOK.out i hil hcq HNI.out)
            have HFI := hide (firstI_some (n := n) (cs := cs.map ctC) (l := k) (s := i) (by omega) (by rw [List.length_map]; exact hil) hcq HNO.out HNI.out)
            clear hcq
            go_wp2_with (first
              | (go_at_call 43; refine HLI.out.mono ?_; rintro e w8 ⟨v8, rfl, hr8, hb8⟩; have HR8 := hide hr8; have HB8 := hide (bel_trans HBd.out hb8); clear hr8 hb8)
              | fail)
            first | rw [Exit.noGoto_ret] | skip
            go_ret
            refine ⟨_, rfl, ?_, HB8.out⟩
            rw [HFI.out]
            exact row_from HR8.out HBd.out.size
          · have HCF : Hid (∀ s, s < i + 1 → cyQ (cs.map ctC) k s = false) := by
              intro s hs
              by_cases e : s = i
              · subst e; rw [HQ.out]; simpa using hpq
              · exact HNI.out s (by omega)
            go_wp2_with fail
            go_roundw
            case rel => exact ⟨i + 1, by omega, by go_num, rfl, HCF, HZd, HBd⟩
            case measure => simp [intOf]; omega
        · have hil' : ¬ ((i : Int) < cs.length) := by omega
          have HNO2 : Hid (∀ l s, l < k + 1 → s < (cs.map ctC).length → cyQ (cs.map ctC) l s = false) := by
            intro l s hl hs
            by_cases e : l = k
            · subst e; exact HNI.out s (by rw [List.length_map] at hs; omega)
            · exact HNO.out l s (by omega) hs
          go_wp2_with fail
          go_roundw
          case rel => exact ⟨k + 1, by omega, by go_num, rfl, HNO2, HZ, HB⟩
          case measure => simp [intOf]; omega
    · have hkn : k = n + 1 := by omega
      subst hkn
      have hlt' : ¬ (((n + 1 : Nat) : Int) < (n : Int) + 1) := by omega
      have HFI := hide (firstI_none (n := n) (cs := cs.map ctC) HNO.out)
      go_wp2_with fail
      first | rw [Exit.noGoto_ret] | skip
      go_ret
      refine ⟨_, rfl, ?_, HB.out⟩
      rw [HFI.out]
      exact World.ownsRow_nil _ _ _ _
end Go.Proofs.Yteedainidoldoaa
