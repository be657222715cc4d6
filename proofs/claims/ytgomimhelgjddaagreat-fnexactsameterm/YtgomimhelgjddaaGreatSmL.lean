/- What the program's lookOf, SameTerm$1 and the two EqualFuncs answer. -/
import Derived.Test.YtgomimhelgjddaaGreatSmB
import Derived.Deep.RegionHeld3
import Derived.Test.YtgomimhelgjddaaGreatSameLaw
import Derived.Test.YtgomimhelgjddaaGreatTOk
namespace Go.Proofs.YtgomimhelgjddaaGreat
open Go.ChangeShapes Go.WideShapes Go.ChangeAt Go.RowKit

theorem ok_lvl {l : List Nd} {t : Tr} (h : OkTree l t) : lvlB l = true := by
  rw [h.1, lvl_flat t h.2.1]
  unfold fitsB
  simp only [decide_eq_true_eq]
  exact ⟨by rw [h.2.2.2.1]; exact h.2.2.2.2.1, by rw [h.2.2.1]; exact h.2.2.2.2.2⟩
theorem implLevelSame_any (l m : List Nd) (v1 v2 : Value) (w : World) (h1 : NodesAt w v1 l) (h2 : NodesAt w v2 m) (hz1 : LvLens l) (hz2 : LvLens m) (o1 : ∃ t, OkTree l t) (o2 : ∃ t, OkTree m t) :
    Calls Tryz.prog 42 #[.agg #[v1], .agg #[v2]] w fun e w' => e = .returned (.bool (sameLv l m)) ∧ Below w.heap.size w w' := by
  obtain ⟨t, ht⟩ := o1
  obtain ⟨u, hu⟩ := o2
  have h := implSame_any v1 v2 l m t u t u w h1 h2 hz1 hz2 (ok_lvl ht) (ok_lvl hu) ht hu ht hu
  unfold sameLv
  rw [treeOf_eq ht, treeOf_eq hu]
  exact h

theorem e42 (args : Array Value) (W : World) : (callFunc 42 args).run Tryz.prog W = .ok (.enter 42 args) W := by kernel_rfl
theorem e39 (args : Array Value) (W : World) : (callFunc 39 args).run Tryz.prog W = .ok (.enter 39 args) W := by kernel_rfl

set_option maxHeartbeats 2000000 in
theorem eqLevels_any (ls ms : List (List Nd)) (v1 v2 : Value) (w : World) (h1 : LevsAt w v1 ls) (h2 : LevsAt w v2 ms) (hz1 : ∀ l ∈ ls, LvLens l) (hz2 : ∀ l ∈ ms, LvLens l) (o1 : ∀ l ∈ ls, ∃ t, OkTree l t) (o2 : ∀ l ∈ ms, ∃ t, OkTree l t) :
    Calls Tryz.prog 41 #[v1, v2, .func (.func 42) #[] #[]] w fun e w' => e = .returned (.bool (lvsB ls ms)) ∧ Below w.heap.size w w' := by
  obtain ⟨a1, cap1, rfl, hl1, hm1, hc1⟩ := h1
  obtain ⟨a2, cap2, rfl, hl2, hm2, hc2⟩ := h2
  unfold maxLen at hm1 hm2
  by_cases hlen : ls.length = ms.length
  · have H1 := hide hc1
    have H2 := hide hc2
    have HZ1 := hide hz1
    have HZ2 := hide hz2
    have HO1 := hide o1
    have HO2 := hide o2
    have hq : ((ls.length : Int) != (ms.length : Int)) = false := by simp [hlen]
    have HL := hide hlen
    have hle : ls.length ≤ ms.length := by omega
    clear hc1 hc2 hlen hz1 hz2 o1 o2
    go_enter Tryz.func41, Tryz.ntmps41
    go_wp2_with fail
    go_loopw [17] (fun i wr => ∃ (k : Nat), k ≤ ls.length ∧ i = .int .i64 k ∧ Hid (Below w.heap.size w wr) ∧ Hid (∀ j (h : j < ls.length) (h2 : j < ms.length), j < k → sameLv ls[j] ms[j] = true)) (fun i _ => ls.length - (intOf i).toNat)
    case atStart => exact ⟨0, by omega, rfl, Below.refl _ _, fun j _ _ h => by omega⟩
    case round =>
      obtain ⟨k, hk, rfl, HB, HA⟩ := hrel
      by_cases hlt : k < ls.length
      · obtain ⟨b1, o1, rfl, c1⟩ := H1.out (by omega)
        obtain ⟨b2, o2, rfl, c2⟩ := H2.out (by omega)
        have hlt2 : k < ms.length := by omega
        obtain ⟨u1, p1, q1⟩ := c1 k hlt
        obtain ⟨u2, p2, q2⟩ := c2 k hlt2
        have p1 := keep_cell HB.out p1
        have p2 := keep_cell HB.out p2
        have hlt' : (k : Int) < ls.length := by omega
        have hlt2' : (k : Int) < ms.length := by omega
        have l1 := lt_cell p1
        have l2 := lt_cell p2
        have HC : Hid (∀ W, Below wr.heap.size wr W → Calls Tryz.prog 42 #[.agg #[u1], .agg #[u2]] W fun e w' => e = .returned (.bool (sameLv ls[k] ms[k])) ∧ Below W.heap.size W w') := fun W hb => implLevelSame_any _ _ u1 u2 W ((q1.keep HB.out).keep hb) ((q2.keep HB.out).keep hb) (HZ1.out _ (List.getElem_mem hlt)) (HZ2.out _ (List.getElem_mem hlt2)) (HO1.out _ (List.getElem_mem hlt)) (HO2.out _ (List.getElem_mem hlt2))
        have HN : Hid (sameLv ls[k] ms[k] = true → ∀ j (h : j < ls.length) (h2 : j < ms.length), j < k + 1 → sameLv ls[j] ms[j] = true) := by
          intro he j h h2 hj
          by_cases e : j = k
          · subst e; exact he
          · exact HA.out j h h2 (by omega)
        have HNO : Hid (sameLv ls[k] ms[k] = false → lvsB ls ms = false) := fun h => lvsB_bad k hlt hlt2 h
        obtain ⟨ka1, kc1, rfl, _, _, _⟩ := q1
        obtain ⟨ka2, kc2, rfl, _, _, _⟩ := q2
        generalize sameLv ls[k] ms[k] = bb at *
        clear c1 c2 H1 H2 HA
        go_wp2_with fail
        refine (HC.out _ (bel_alloc (bel_alloc (Below.refl _ _) _) _)).mono ?_
        rintro e w1 ⟨rfl, hb1⟩
        have hbw := hide (bel_trans HB.out (bel_trans (bel_alloc (bel_alloc (Below.refl wr.heap.size wr) _) _) hb1))
        clear hb1
        cases bb
        · have HF := hide (HNO.out rfl)
          go_wp2_with fail
          go_ret
          exact ⟨ret_bool HF.out.symm, hbw.out⟩
        · have HM := hide (HN.out rfl)
          go_wp2_with fail
          go_roundw
          case rel => exact ⟨k + 1, by omega, by go_num, hbw.out, HM⟩
          case measure => simp [intOf]; omega
      · have HE : Hid (lvsB ls ms = true) := lvsB_good HL.out (fun j h h2 => HA.out j h h2 (by omega))
        go_wp2_with fail
        go_ret
        exact ⟨ret_bool HE.out.symm, HB.out⟩
  · have hq : ((ls.length : Int) != (ms.length : Int)) = true := by rw [bne_iff_ne]; omega
    have HF := hide (lvsB_ne hlen)
    clear hc1 hc2 hlen
    go_enter Tryz.func41, Tryz.ntmps41
    go_wp2_with fail
    go_ret
    exact ⟨ret_bool HF.out.symm, Below.refl _ _⟩

set_option maxHeartbeats 1000000 in
theorem isBinder_any (k : Int) (w : World) : Calls Tryz.prog 62 #[.int .i64 k] w fun e w' => e = .returned (.bool (bindsB k)) ∧ w' = w := by
  by_cases h5 : k = 5
  · have HB : Hid (bindsB k = true) := by show _ = _; unfold bindsB; simp [h5]
    have q5 : (k == 5) = true := beq_iff_eq.2 h5
    clear h5
    go_enter Tryz.func62, Tryz.ntmps62
    go_wp2_with fail
    go_ret
    exact ⟨ret_bool HB.out.symm, rfl⟩
  have q5 : (k == 5) = false := beq_eq_false_iff_ne.2 h5
  by_cases h6 : k = 6
  · have HB : Hid (bindsB k = true) := by show _ = _; unfold bindsB; simp [h6]
    have q6 : (k == 6) = true := beq_iff_eq.2 h6
    clear h6 h5
    go_enter Tryz.func62, Tryz.ntmps62
    go_wp2_with fail
    go_ret
    exact ⟨ret_bool HB.out.symm, rfl⟩
  have q6 : (k == 6) = false := beq_eq_false_iff_ne.2 h6
  have HB : Hid (bindsB k = (k == 7)) := by
    show _ = _
    unfold bindsB
    simp only [decide_eq_false h5, decide_eq_false h6, Bool.false_or]
    rfl
  clear h5 h6
  go_enter Tryz.func62, Tryz.ntmps62
  go_wp2_with fail
  go_ret
  exact ⟨ret_bool HB.out.symm, rfl⟩
/-- What lookOf keeps of a node. -/
def lookV (x : Td) : Value := if bindsB x.k = true then .agg #[.int .i64 x.k, .int .i64 0, .string ⟨#[]⟩] else .agg #[.int .i64 x.k, .int .i64 x.n, .string x.s]
set_option maxHeartbeats 1000000 in
theorem lookOf_any (x : Td) (lv kv : Value) (w : World) : Calls Tryz.prog 40 #[.agg #[.int .i64 x.k, .int .i64 x.n, .int .i64 x.m, .string x.s, lv, kv]] w fun e w' => e = .returned (lookV x) ∧ Below w.heap.size w w' := by
  cases hb : bindsB x.k
  · have HL : Hid (lookV x = .agg #[.int .i64 x.k, .int .i64 x.n, .string x.s]) := by show _ = _; unfold lookV; rw [if_neg (by simp [hb])]
    go_enter Tryz.func40, Tryz.ntmps40
    go_wp2_with (first | (go_at_call 62; refine (isBinder_any _ _).mono ?_; rintro e w' ⟨rfl, hw⟩; have hw := hw.symm; subst hw; rw [hb]) | fail)
    refine bodyPost_ret (v := .agg #[.int .i64 x.k, .int .i64 x.n, .string x.s]) (by simp [results, go_sem]) rfl ⟨by rw [HL.out], bel_alloc (bel_alloc (Below.refl _ _) _) _⟩
  · have HL : Hid (lookV x = .agg #[.int .i64 x.k, .int .i64 0, .string ⟨#[]⟩]) := by show _ = _; unfold lookV; rw [if_pos hb]
    go_enter Tryz.func40, Tryz.ntmps40
    go_wp2_with (first | (go_at_call 62; refine (isBinder_any _ _).mono ?_; rintro e w' ⟨rfl, hw⟩; have hw := hw.symm; subst hw; rw [hb]) | fail)
    refine bodyPost_ret (v := .agg #[.int .i64 x.k, .int .i64 0, .string ⟨#[]⟩]) (by simp [results, go_sem]) rfl ⟨by rw [HL.out], bel_alloc (bel_alloc (Below.refl _ _) _) _⟩

/-- Whether two nodes look alike. -/
def lookB (x y : Td) : Bool := decide (x.k = y.k) && decide (x.n = y.n) && (bindsB x.k || decide (x.s = y.s))
theorem look_parts (x y : Td) (h1 : bindsB x.k = true → x.n = 0) (h2 : bindsB y.k = true → y.n = 0) : ∃ (k1 n1 k2 n2 : Int) (s1 s2 : ByteArray), lookV x = .agg #[.int .i64 k1, .int .i64 n1, .string s1] ∧ lookV y = .agg #[.int .i64 k2, .int .i64 n2, .string s2] ∧ lookB x y = (decide (k1 = k2) && decide (n1 = n2) && decide (s1 = s2)) := by
  unfold lookV lookB
  cases hx : bindsB x.k <;> cases hy : bindsB y.k
  · exact ⟨_, _, _, _, _, _, rfl, rfl, by simp⟩
  · have hk : x.k ≠ y.k := fun h => by rw [h, hy] at hx; cases hx
    exact ⟨_, _, _, _, _, _, rfl, rfl, by simp [hk]⟩
  · have hk : x.k ≠ y.k := fun h => by rw [h, hy] at hx; cases hx
    exact ⟨_, _, _, _, _, _, rfl, rfl, by simp [hk]⟩
  · exact ⟨_, _, _, _, _, _, rfl, rfl, by simp [h1 hx, h2 hy]⟩

set_option maxRecDepth 20000 in
set_option maxHeartbeats 4000000 in
theorem same39_any (x y : Td) (lv1 kv1 lv2 kv2 : Value) (w : World) (a1 : LevsAt w lv1 x.lv) (a2 : LevsAt w lv2 y.lv) (k1 : ∃ a n c, kv1 = .slice a n c) (k2 : ∃ a n c, kv2 = .slice a n c) (z1 : ∀ l ∈ x.lv, LvLens l) (z2 : ∀ l ∈ y.lv, LvLens l) (o1 : ∀ l ∈ x.lv, ∃ t, OkTree l t) (o2 : ∀ l ∈ y.lv, ∃ t, OkTree l t) (h1 : bindsB x.k = true → x.n = 0) (h2 : bindsB y.k = true → y.n = 0) :
    Calls Tryz.prog 39 #[.agg #[.int .i64 x.k, .int .i64 x.n, .int .i64 x.m, .string x.s, lv1, kv1], .agg #[.int .i64 y.k, .int .i64 y.n, .int .i64 y.m, .string y.s, lv2, kv2]] w fun e w' => e = .returned (.bool (hs x y)) ∧ Below w.heap.size w w' := by
  have HE := hide (fun W hb => eqLevels_any x.lv y.lv lv1 lv2 W (a1.keep hb) (a2.keep hb) z1 z2 o1 o2)
  obtain ⟨la1, lc1, rfl, _, _, _⟩ := a1
  obtain ⟨la2, lc2, rfl, _, _, _⟩ := a2
  obtain ⟨ka1, kn1, kc1, rfl⟩ := k1
  obtain ⟨ka2, kn2, kc2, rfl⟩ := k2
  have HL1 := hide (fun W => lookOf_any x (.slice la1 x.lv.length lc1) (.slice ka1 kn1 kc1) W)
  have HL2 := hide (fun W => lookOf_any y (.slice la2 y.lv.length lc2) (.slice ka2 kn2 kc2) W)
  have HH : Hid (hs x y = (lookB x y && lvsB x.lv y.lv)) := rfl
  obtain ⟨k1, n1, k2, n2, s1, s2, hlx, hly, hlb⟩ := look_parts x y h1 h2
  rw [hlx] at HL1
  rw [hly] at HL2
  rw [hlb] at HH
  have HTS : Hid (s1.toList = s2.toList → s1 = s2) := fun h => by
    have h2 := beq_bytes s1 s2
    rw [h] at h2
    simpa using h2
  clear hlx hly hlb h1 h2 z1 z2 o1 o2
  obtain ⟨W, hW⟩ : ∃ W, W = (w.alloc (.cells #[.int .i64 x.k, .int .i64 x.n, .int .i64 x.m, .string x.s, .slice la1 x.lv.length lc1, .slice ka1 kn1 kc1] 51)).alloc (.cells #[.int .i64 y.k, .int .i64 y.n, .int .i64 y.m, .string y.s, .slice la2 y.lv.length lc2, .slice ka2 kn2 kc2] 51) := ⟨_, rfl⟩
  have HBW := hide (show Below w.heap.size w W by rw [hW]; exact bel_alloc (bel_alloc (Below.refl _ _) _) _)
  have hsW : W.heap.size = w.heap.size + 2 := by rw [hW]; simp
  haveI := bel_ne W.heap.size W
  have c0 : ∀ p : Bel W.heap.size W, p.w'.cell? ⟨w.heap.size, 0, none⟩ = some (.int .i64 x.k) := fun p => p.cell (by omega) (by rw [hW]; simp [go_sem])
  have c1 : ∀ p : Bel W.heap.size W, p.w'.cell? ⟨w.heap.size, 1, none⟩ = some (.int .i64 x.n) := fun p => p.cell (by omega) (by rw [hW]; simp [go_sem])
  have c2 : ∀ p : Bel W.heap.size W, p.w'.cell? ⟨w.heap.size, 2, none⟩ = some (.int .i64 x.m) := fun p => p.cell (by omega) (by rw [hW]; simp [go_sem])
  have c3 : ∀ p : Bel W.heap.size W, p.w'.cell? ⟨w.heap.size, 3, none⟩ = some (.string x.s) := fun p => p.cell (by omega) (by rw [hW]; simp [go_sem])
  have c4 : ∀ p : Bel W.heap.size W, p.w'.cell? ⟨w.heap.size, 4, none⟩ = some (.slice la1 x.lv.length lc1) := fun p => p.cell (by omega) (by rw [hW]; simp [go_sem])
  have c5 : ∀ p : Bel W.heap.size W, p.w'.cell? ⟨w.heap.size, 5, none⟩ = some (.slice ka1 kn1 kc1) := fun p => p.cell (by omega) (by rw [hW]; simp [go_sem])
  have d0 : ∀ p : Bel W.heap.size W, p.w'.cell? ⟨w.heap.size + 1, 0, none⟩ = some (.int .i64 y.k) := fun p => p.cell (by omega) (by rw [hW]; simp [go_sem])
  have d1 : ∀ p : Bel W.heap.size W, p.w'.cell? ⟨w.heap.size + 1, 1, none⟩ = some (.int .i64 y.n) := fun p => p.cell (by omega) (by rw [hW]; simp [go_sem])
  have d2 : ∀ p : Bel W.heap.size W, p.w'.cell? ⟨w.heap.size + 1, 2, none⟩ = some (.int .i64 y.m) := fun p => p.cell (by omega) (by rw [hW]; simp [go_sem])
  have d3 : ∀ p : Bel W.heap.size W, p.w'.cell? ⟨w.heap.size + 1, 3, none⟩ = some (.string y.s) := fun p => p.cell (by omega) (by rw [hW]; simp [go_sem])
  have d4 : ∀ p : Bel W.heap.size W, p.w'.cell? ⟨w.heap.size + 1, 4, none⟩ = some (.slice la2 y.lv.length lc2) := fun p => p.cell (by omega) (by rw [hW]; simp [go_sem])
  have d5 : ∀ p : Bel W.heap.size W, p.w'.cell? ⟨w.heap.size + 1, 5, none⟩ = some (.slice ka2 kn2 kc2) := fun p => p.cell (by omega) (by rw [hW]; simp [go_sem])
  have HEP : Hid (∀ p : Bel W.heap.size W, Calls Tryz.prog 41 #[.slice la1 x.lv.length lc1, .slice la2 y.lv.length lc2, .func (.func 42) #[] #[]] p.w' fun e w' => e = .returned (.bool (lvsB x.lv y.lv)) ∧ Below p.w'.heap.size p.w' w') := fun p => HE.out _ (HBW.out.trans (p.h.mono (by omega)))
  clear HE
  generalize lvsB x.lv y.lv = lb at *
  have HSW := hide hsW
  clear hsW
  go_enter Tryz.func39, Tryz.ntmps39
  go_wp2_with fail
  rw [← hW]
  clear hW
  by_cases e1 : k1 = k2
  case neg =>
    have HR : Hid (hs x y = false) := by show _ = _; rw [HH.out]; simp [e1]
    clear HH
    refine wp_region_belH W.heap.size (by kernel_rfl) (by kernel_rfl) (fun Q' hQ' => ?_)
    repeat (refine QW.step (fun K hK => ?_); go_simp; first | (refine hK _ ?_; clear hK K) | (apply Exists.intro; refine ⟨fun _ => ?_, hK _ ?_⟩; (first | (go_at_call_of 40 (Value.agg #[.int .i64 x.k, .int .i64 x.n, .int .i64 x.m, .string x.s, .slice la1 x.lv.length lc1, .slice ka1 kn1 kc1]); exact calls_bel (Nat.le_refl _) (HL1.out _)) | (go_at_call_of 40 (Value.agg #[.int .i64 y.k, .int .i64 y.n, .int .i64 y.m, .string y.s, .slice la2 y.lv.length lc2, .slice ka2 kn2 kc2]); exact calls_bel (Nat.le_refl _) (HL2.out _)) | (go_at_call 41; exact calls_bel (Nat.le_refl _) (HEP.out _))); clear hK K))
    refine QW.nil ?_
    refine hQ'.out _ (fun p => ?_)
    clear hQ'
    go_wp2_with fail
    go_ret
    exact ⟨ret_bool HR.out.symm, HBW.out.trans (p.h.mono (by have := HSW.out; omega))⟩
  by_cases e2 : n1 = n2
  case neg =>
    have HR : Hid (hs x y = false) := by show _ = _; rw [HH.out]; simp [e2]
    clear HH
    subst e1
    refine wp_region_belH W.heap.size (by kernel_rfl) (by kernel_rfl) (fun Q' hQ' => ?_)
    repeat (refine QW.step (fun K hK => ?_); go_simp; first | (refine hK _ ?_; clear hK K) | (apply Exists.intro; refine ⟨fun _ => ?_, hK _ ?_⟩; (first | (go_at_call_of 40 (Value.agg #[.int .i64 x.k, .int .i64 x.n, .int .i64 x.m, .string x.s, .slice la1 x.lv.length lc1, .slice ka1 kn1 kc1]); exact calls_bel (Nat.le_refl _) (HL1.out _)) | (go_at_call_of 40 (Value.agg #[.int .i64 y.k, .int .i64 y.n, .int .i64 y.m, .string y.s, .slice la2 y.lv.length lc2, .slice ka2 kn2 kc2]); exact calls_bel (Nat.le_refl _) (HL2.out _)) | (go_at_call 41; exact calls_bel (Nat.le_refl _) (HEP.out _))); clear hK K))
    refine QW.nil ?_
    refine hQ'.out _ (fun p => ?_)
    clear hQ'
    go_wp2_with fail
    go_ret
    exact ⟨ret_bool HR.out.symm, HBW.out.trans (p.h.mono (by have := HSW.out; omega))⟩
  by_cases e3 : s1 = s2
  case neg =>
    have HR : Hid (hs x y = false) := by show _ = _; rw [HH.out]; simp [e3]
    have e4 : ¬ s1.toList = s2.toList := fun h => e3 (HTS.out h)
    clear HH
    subst e1 e2
    refine wp_region_belH W.heap.size (by kernel_rfl) (by kernel_rfl) (fun Q' hQ' => ?_)
    repeat (refine QW.step (fun K hK => ?_); go_simp; first | (refine hK _ ?_; clear hK K) | (apply Exists.intro; refine ⟨fun _ => ?_, hK _ ?_⟩; (first | (go_at_call_of 40 (Value.agg #[.int .i64 x.k, .int .i64 x.n, .int .i64 x.m, .string x.s, .slice la1 x.lv.length lc1, .slice ka1 kn1 kc1]); exact calls_bel (Nat.le_refl _) (HL1.out _)) | (go_at_call_of 40 (Value.agg #[.int .i64 y.k, .int .i64 y.n, .int .i64 y.m, .string y.s, .slice la2 y.lv.length lc2, .slice ka2 kn2 kc2]); exact calls_bel (Nat.le_refl _) (HL2.out _)) | (go_at_call 41; exact calls_bel (Nat.le_refl _) (HEP.out _))); clear hK K))
    refine QW.nil ?_
    refine hQ'.out _ (fun p => ?_)
    clear hQ'
    go_wp2_with fail
    go_ret
    exact ⟨ret_bool HR.out.symm, HBW.out.trans (p.h.mono (by have := HSW.out; omega))⟩
  have HR : Hid (hs x y = lb) := by show _ = _; rw [HH.out]; simp [e1, e2, e3]
  clear HH
  subst e1 e2 e3
  refine wp_region_belH W.heap.size (by kernel_rfl) (by kernel_rfl) (fun Q' hQ' => ?_)
  repeat (refine QW.step (fun K hK => ?_); go_simp; first | (refine hK _ ?_; clear hK K) | (apply Exists.intro; refine ⟨fun _ => ?_, hK _ ?_⟩; (first | (go_at_call_of 40 (Value.agg #[.int .i64 x.k, .int .i64 x.n, .int .i64 x.m, .string x.s, .slice la1 x.lv.length lc1, .slice ka1 kn1 kc1]); exact calls_bel (Nat.le_refl _) (HL1.out _)) | (go_at_call_of 40 (Value.agg #[.int .i64 y.k, .int .i64 y.n, .int .i64 y.m, .string y.s, .slice la2 y.lv.length lc2, .slice ka2 kn2 kc2]); exact calls_bel (Nat.le_refl _) (HL2.out _)) | (go_at_call 41; exact calls_bel (Nat.le_refl _) (HEP.out _))); clear hK K))
  refine QW.nil ?_
  refine hQ'.out _ (fun p => ?_)
  clear hQ'
  go_wp2_with fail
  go_ret
  exact ⟨ret_bool HR.out.symm, HBW.out.trans (p.h.mono (by have := HSW.out; omega))⟩
end Go.Proofs.YtgomimhelgjddaaGreat

/- What the specification's l1Same answers at two trees of levels. -/
namespace Go.Proofs.YtgomimhelgjddaaGreat
open Go.ChangeShapes Go.WideShapes Go.ChangeAt Go.RowKit

set_option maxRecDepth 20000 in
set_option maxHeartbeats 4000000 in
theorem l1Same_any (l m : List Nd) (t u : Tr) (g1 g2 : Nat) (w : World) (h1 : TreeAt w.heap.size w g1 t) (h2 : TreeAt w.heap.size w g2 u) (o1 : OkTree l t) (o2 : OkTree m u) :
    Calls Tryz.prog 104 #[.pointer (some ⟨g1, 0, none⟩), .pointer (some ⟨g2, 0, none⟩)] w fun e w' => e = .returned (.bool (sameLv l m)) ∧ Below w.heap.size w w' := by
  obtain ⟨j, hj, hjs⟩ := info_size Tryz.inf125
  have H1 := hide h1
  have H2 := hide h2
  have c1 : t.cnt ≤ 64 := by rw [o1.2.2.2.1]; exact o1.2.2.2.2.1
  have c2 : u.cnt ≤ 64 := by rw [o2.2.2.2.1]; exact o2.2.2.2.2.1
  have HS1 : Hid (∀ W, Below w.heap.size w W → Calls Tryz.prog 134 #[.pointer (some ⟨g1, 0, none⟩)] W fun e w' => e = .returned (.string t.it.text) ∧ Below W.heap.size W w') := fun W hb => stext_any 64 t c1 o1.2.1 c1 g1 W ((H1.out.keep hb).mono hb.size)
  have HS2 : Hid (∀ W, Below w.heap.size w W → Calls Tryz.prog 134 #[.pointer (some ⟨g2, 0, none⟩)] W fun e w' => e = .returned (.string u.it.text) ∧ Below W.heap.size W w') := fun W hb => stext_any 64 u c2 o2.2.1 c2 g2 W ((H2.out.keep hb).mono hb.size)
  have HL1 : Hid (∀ W, Below w.heap.size w W → Calls Tryz.prog 135 #[.pointer (some ⟨g1, 0, none⟩), .pointer (some ⟨g2, 0, none⟩)] W fun e w' => e = .returned (.bool (triesLeq t u (u.names (t.names [])))) ∧ Below W.heap.size W w') := fun W hb => l1Leq_any t u g1 g2 W ((H1.out.keep hb).mono hb.size) ((H2.out.keep hb).mono hb.size) o1.2.1 o2.2.1 c1 c2 (names_le12 o1 o2)
  have HL2 : Hid (∀ W, Below w.heap.size w W → Calls Tryz.prog 135 #[.pointer (some ⟨g2, 0, none⟩), .pointer (some ⟨g1, 0, none⟩)] W fun e w' => e = .returned (.bool (triesLeq u t (t.names (u.names [])))) ∧ Below W.heap.size W w') := fun W hb => l1Leq_any u t g2 g1 W ((H2.out.keep hb).mono hb.size) ((H1.out.keep hb).mono hb.size) o2.2.1 o1.2.1 c2 c1 (names_le12 o2 o1)
  have HIS := hide (sameLv_is o1 o2)
  by_cases hg : g1 = g2
  · have HR : Hid (sameLv l m = true) := by
      show _ = _
      have e : t = u := tree_det t u g1 h1 (by rw [hg]; exact h2)
      subst e
      exact sameLv_refl o1 o2
    subst hg
    have hpe := run_eql_ptr_same (P := Tryz.prog) w (tp := 94) (te := 125) ⟨g1, 0, none⟩ (by kernel_rfl) hj
    clear HS1 HS2 HL1 HL2 H1 H2 h1 h2 o1 o2 c1 c2 HIS
    go_enter Tryz.func104, Tryz.ntmps104
    go_upto_region 1 with fail
    refine wp_region_LW (fun Q' hQ' => ?_)
    repeat (refine LW.step (fun K hK => ?_); go_simp; first | (refine hK.out _ _ ?_; clear hK K))
    refine LW.nil ?_
    rw [hQ'.out]
    clear hQ'
    go_wp2_with fail
    go_ret
    exact ⟨ret_bool HR.out.symm, Below.refl _ _⟩
  have hpe : (binOp .eql 94 (.pointer (some ⟨g1, 0, none⟩)) (.pointer (some ⟨g2, 0, none⟩))).run Tryz.prog w = .ok (.bool false) w := by
    obtain ⟨cs1, k1⟩ := node_heap h1
    obtain ⟨cs2, k2⟩ := node_heap h2
    exact run_eql_ptr_other (P := Tryz.prog) w (tp := 94) (te := 125) (a := ⟨g1, 0, none⟩) (b := ⟨g2, 0, none⟩) (by kernel_rfl) hj (by omega) (fun h => hg (by injection h)) k1 k2
  clear H1 H2 h1 h2 c1 c2
  by_cases ht : t.it.text = u.it.text
  · have HR : Hid (sameLv l m = true) := by
      show _ = _
      have e := text_one o1 o2 ht
      subst e
      exact sameLv_refl o1 o2
    rw [← ht] at HS2
    generalize t.it.text = tx at *
    clear HL1 HL2 o1 o2 HIS ht
    go_enter Tryz.func104, Tryz.ntmps104
    go_upto_region 1 with fail
    refine wp_region_LW (fun Q' hQ' => ?_)
    repeat (refine LW.step (fun K hK => ?_); go_simp; first | (refine hK.out _ _ ?_; clear hK K) | (go_at_call 134; go_at_call_of 134 (Value.pointer (some ⟨g1, 0, none⟩)); refine (HS1.out _ (Below.refl _ _)).mono ?_; rintro e w1 ⟨rfl, hb1⟩; refine hK.out _ _ ?_; clear hK K) | (go_at_call 134; go_at_call_of 134 (Value.pointer (some ⟨g2, 0, none⟩)); refine (HS2.out _ hb1).mono ?_; rintro e w2 ⟨rfl, hb2⟩; refine hK.out _ _ ?_; clear hK K))
    refine LW.nil ?_
    rw [hQ'.out]
    clear hQ'
    go_wp2_with fail
    go_ret
    exact ⟨ret_bool HR.out.symm, bel_trans hb1 hb2⟩
  generalize t.it.text = tx at *
  generalize u.it.text = ty at *
  have hsb : (tx.toList == ty.toList) = false := by rw [beq_bytes]; simp [ht]
  clear ht
  cases hA : triesLeq t u (u.names (t.names []))
  · have HR : Hid (sameLv l m = false) := by show _ = _; rw [HIS.out, hA]; rfl
    rw [hA] at HL1
    clear HL2 o1 o2 HIS hA
    go_enter Tryz.func104, Tryz.ntmps104
    go_upto_region 1 with fail
    refine wp_region_LW (fun Q' hQ' => ?_)
    repeat (refine LW.step (fun K hK => ?_); go_simp; first | (refine hK.out _ _ ?_; clear hK K) | (go_at_call 134; go_at_call_of 134 (Value.pointer (some ⟨g1, 0, none⟩)); refine (HS1.out _ (Below.refl _ _)).mono ?_; rintro e w1 ⟨rfl, hb1⟩; refine hK.out _ _ ?_; clear hK K) | (go_at_call 134; go_at_call_of 134 (Value.pointer (some ⟨g2, 0, none⟩)); refine (HS2.out _ hb1).mono ?_; rintro e w2 ⟨rfl, hb2⟩; refine hK.out _ _ ?_; clear hK K) | (go_at_call 135; go_at_call_of 135 (Value.pointer (some ⟨g1, 0, none⟩)); refine (HL1.out _ (bel_trans hb1 hb2)).mono ?_; rintro e w3 ⟨rfl, hb3⟩; refine hK.out _ _ ?_; clear hK K))
    refine LW.nil ?_
    rw [hQ'.out]
    clear hQ'
    go_wp2_with fail
    go_ret
    exact ⟨ret_bool HR.out.symm, bel_trans (bel_trans hb1 hb2) hb3⟩
  · have HR : Hid (sameLv l m = triesLeq u t (t.names (u.names []))) := by show _ = _; rw [HIS.out, hA]; rfl
    rw [hA] at HL1
    generalize triesLeq u t (t.names (u.names [])) = bb at *
    clear o1 o2 HIS hA
    go_enter Tryz.func104, Tryz.ntmps104
    go_upto_region 1 with fail
    refine wp_region_LW (fun Q' hQ' => ?_)
    repeat (refine LW.step (fun K hK => ?_); go_simp; first | (refine hK.out _ _ ?_; clear hK K) | (go_at_call 134; go_at_call_of 134 (Value.pointer (some ⟨g1, 0, none⟩)); refine (HS1.out _ (Below.refl _ _)).mono ?_; rintro e w1 ⟨rfl, hb1⟩; refine hK.out _ _ ?_; clear hK K) | (go_at_call 134; go_at_call_of 134 (Value.pointer (some ⟨g2, 0, none⟩)); refine (HS2.out _ hb1).mono ?_; rintro e w2 ⟨rfl, hb2⟩; refine hK.out _ _ ?_; clear hK K) | (go_at_call 135; have hb3x := hb3; clear hb3x; refine (HL2.out _ (bel_trans (bel_trans hb1 hb2) hb3)).mono ?_; rintro e w4 ⟨rfl, hb4⟩; refine hK.out _ _ ?_; clear hK K) | (go_at_call 135; refine (HL1.out _ (bel_trans hb1 hb2)).mono ?_; rintro e w3 ⟨rfl, hb3⟩; refine hK.out _ _ ?_; clear hK K))
    refine LW.nil ?_
    rw [hQ'.out]
    clear hQ'
    go_wp2_with fail
    go_ret
    exact ⟨ret_bool HR.out.symm, bel_trans (bel_trans (bel_trans hb1 hb2) hb3) hb4⟩
end Go.Proofs.YtgomimhelgjddaaGreat
