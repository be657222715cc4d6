/- The specification's table of greatest sums, walked. -/
import Derived.Test.YteedainidoldoaaSvE
import Derived.Test.YteedainidoldoaaSvD
import Derived.Test.YteedainidoldoaaSvQ
import Derived.Deep.AppendLies
import Derived.Deep.RegionHeld3
namespace Go.Proofs.Yteedainidoldoaa
open Go.ChangeShapes Go.WideShapes Go.ChangeAt Go.RowKit

theorem Try.info24 : (Try.prog.info? 24).map (fun i => (i.zero, i.size, i.bytes)) = some (some (.slice none 0 0), 1, 24) := by kernel_rfl
theorem l2None_any (w : World) : Calls Try.prog 34 #[] w fun e w' => e = .returned (.int .i64 NoW) ∧ w' = w := by
  go_enter Try.func34, Try.ntmps34
  go_wp2_with fail
  go_ret
  exact ⟨ret_int rfl, rfl⟩
theorem row_le {w : World} {base base' : Nat} {e : TypeId} {size : Nat} {v : Value} {n : Nat} {xs : List Value} (h : w.ownsRow base e size v n xs) (hb : base' ≤ base) : w.ownsRow base' e size v n xs := by
  refine ⟨h.1, ?_⟩
  rcases h.2 with h | ⟨g, cap, cur, h1, h2, h3⟩
  · exact .inl h
  · exact .inr ⟨g, cap, cur, h1, by omega, h3⟩
/-- The table, with its rows from the second place on. -/
def OutAt (B : Nat) (cs : List Cn) (to : Cn) (w : World) (v : Value) (k : Nat) : Prop :=
  ∃ rows : List Value, w.ownsRow B 24 1 v k rows ∧ ∀ t, t + 1 < k → ∃ gr : Nat, rows[t + 1]? = some (.slice (some ⟨gr, 0, none⟩) cs.length cs.length) ∧ w.ownsRow B 3 1 (.slice (some ⟨gr, 0, none⟩) cs.length cs.length) cs.length ((rowT cs to t).map (fun k => Value.int .i64 k))
theorem row_ne {w : World} {B B' g g' n n' c c' : Nat} {xs ys : List Value} (h : w.ownsRow B 24 1 (.slice (some ⟨g, 0, none⟩) n c) n xs) (h' : w.ownsRow B' 3 1 (.slice (some ⟨g', 0, none⟩) n' c') n' ys) : g' ≠ g := by
  intro e
  subst e
  rcases h.2 with ⟨h1, _⟩ | ⟨a, _, cur, h1, _, h2, _⟩
  · simp at h1
  rcases h'.2 with ⟨h3, _⟩ | ⟨a', _, cur', h3, _, h4, _⟩
  · simp at h3
  simp only [Value.slice.injEq, Option.some.injEq, Addr.mk.injEq, and_true, true_and] at h1 h3
  obtain ⟨rfl, _⟩ := h1
  obtain ⟨rfl, _⟩ := h3
  rw [h2] at h4
  simp at h4
theorem OutAt.snoc {B : Nat} {cs : List Cn} {to : Cn} {wo wr : World} {go k co g : Nat} (h : OutAt B cs to wo (.slice (some ⟨go, 0, none⟩) (k + 1) co) (k + 1)) (hb : Below wo.heap.size wo wr) (hB : B ≤ wo.heap.size) (hr : wr.ownsRow wo.heap.size 3 1 (.slice (some ⟨g, 0, none⟩) cs.length cs.length) cs.length ((rowT cs to k).map (fun k => Value.int .i64 k))) :
    ∃ rows : List Value, wr.ownsRow B 24 1 (.slice (some ⟨go, 0, none⟩) (k + 1) co) (k + 1) rows ∧ ∀ (o : Obj) (g5 cap5 : Nat) (w5 : World), w5.ownsRow B 24 1 (.slice (some ⟨g5, 0, none⟩) (k + 1 + 1) cap5) (k + 1 + 1) (rows ++ [.slice (some ⟨g, 0, none⟩) cs.length cs.length]) → (wr.alloc o).grownBy w5 (some go) → OutAt B cs to w5 (.slice (some ⟨g5, 0, none⟩) (k + 1 + 1) cap5) (k + 1 + 1) := by
  obtain ⟨rows, h1, h2⟩ := h
  have h1' := row_keep hb h1
  refine ⟨rows, h1', fun o g5 cap5 w5 h5 hg => ⟨_, h5, fun t ht => ?_⟩⟩
  have hl : rows.length = k + 1 := by have := h1.1; omega
  by_cases e : t = k
  · subst e
    refine ⟨g, ?_, ?_⟩
    · rw [List.getElem?_append_right (by omega), hl]; simp
    · have hne := row_ne h1' hr
      exact World.ownsRow.kept (row_le hr hB |>.alloc o) hg (.inr (by show some g ≠ some go; simpa using hne))
  · obtain ⟨gr, h3, h4⟩ := h2 t (by omega)
    refine ⟨gr, ?_, ?_⟩
    · rw [List.getElem?_append_left (by omega)]; exact h3
    · have h4' := row_keep hb h4
      have hne := row_ne h1' h4'
      exact World.ownsRow.kept (World.ownsRow.alloc h4' o) hg (.inr (by show some gr ≠ some go; simpa using hne))
set_option maxRecDepth 20000 in
set_option maxHeartbeats 4000000 in
theorem l2Best_any (v : Value) (cs : List Cn) (n : Int) (to : Cn) (m : Nat) (w : World) (hn : ConsAt w v cs) (hok : consB n cs = true) (ht : -1 ≤ to.a) (hm : m ≤ 31) :
    Calls Try.prog 33 #[v, .agg #[.int .i64 to.a, .int .i64 to.n, .int .i64 to.b], .int .i64 m] w fun e w' => ∃ v', e = .returned v' ∧ OutAt w.heap.size cs to w' v' (m + 1) ∧ Below w.heap.size w w' := by
  obtain ⟨i3, hi3, hz3, hs3, hb3⟩ := info_parts Try.info3
  obtain ⟨i24, hi24, hz24, hs24, hb24⟩ := info_parts Try.info24
  have HN := hide hn
  obtain ⟨a2, cap2, rfl, hlc2, hcm2, hc2⟩ := hn
  unfold maxLen at hcm2
  have H2 := hide hc2
  obtain ⟨⟨g1, g2, g3⟩, g4⟩ := consB_yes hok
  have HS := hide g4
  clear hc2 g4 hok
  go_enter Try.func33, Try.ntmps33
  go_wp2_with fail
  obtain ⟨W1, hW1⟩ : ∃ W1, W1 = w.alloc (Obj.cells #[.int .i64 to.a, .int .i64 to.n, .int .i64 to.b] 42) := ⟨_, rfl⟩
  have hs1 : W1.heap.size = w.heap.size + 1 := by rw [hW1]; simp
  rw [← hW1]
  have HT : Hid (W1.cell? ⟨w.heap.size, 0, none⟩ = some (.int .i64 to.a) ∧ W1.cell? ⟨w.heap.size, 1, none⟩ = some (.int .i64 to.n) ∧ W1.cell? ⟨w.heap.size, 2, none⟩ = some (.int .i64 to.b)) := by
    rw [hW1]
    refine ⟨?_, ?_, ?_⟩ <;> simp [go_sem]
  have HB1 : Hid (Below w.heap.size w W1) := by rw [hW1]; exact bel_alloc (Below.refl w.heap.size w) _
  have HN1 := hide (HN.out.keep HB1.out)
  clear hW1
  have HB0 : Hid (Below W1.heap.size W1 ((W1.alloc (Obj.cells #[] 3)).alloc (Obj.cells #[.slice (some ⟨w.heap.size + 1, 0, none⟩) 0 0] 24))) := bel_alloc (bel_alloc (Below.refl W1.heap.size W1) _) _
  have HO0 : Hid (OutAt W1.heap.size cs to ((W1.alloc (Obj.cells #[] 3)).alloc (Obj.cells #[.slice (some ⟨w.heap.size + 1, 0, none⟩) 0 0] 24)) (.slice (some ⟨w.heap.size + 1 + 1, 0, none⟩) 1 1) (0 + 1)) := by
    refine ⟨[.slice (some ⟨w.heap.size + 1, 0, none⟩) 0 0], ?_, fun t h => by omega⟩
    have h := World.ownsRow_lit (base := W1.heap.size) (e := 24) (size := 1) (W1.alloc (Obj.cells #[] 3)) #[.slice (some ⟨w.heap.size + 1, 0, none⟩) 0 0] 1 (by simp) (by unfold maxLen; omega) rfl
    rw [show (W1.alloc (Obj.cells #[] 3)).heap.size = w.heap.size + 1 + 1 by simp [hs1]] at h
    exact h
  generalize (W1.alloc (Obj.cells #[] 3)).alloc (Obj.cells #[.slice (some ⟨w.heap.size + 1, 0, none⟩) 0 0] 24) = w2 at *
  go_loopw [7, 8] (fun vo kv wr => ∃ k go co : Nat, k ≤ m ∧ kv = .int .i64 ((k : Int) + 1) ∧ vo = .slice (some ⟨go, 0, none⟩) (k + 1) co ∧ Hid (OutAt W1.heap.size cs to wr (.slice (some ⟨go, 0, none⟩) (k + 1) co) (k + 1)) ∧ Hid (Below W1.heap.size W1 wr)) (fun _ kv _ => m + 1 - (intOf kv).toNat)
  case atStart => exact ⟨0, _, _, by omega, rfl, rfl, HO0, HB0⟩
  case round =>
    clear HO0 HB0
    obtain ⟨k, go, co, hk, rfl, rfl, HO, HB⟩ := hrel
    by_cases hlt : k < m
    · have hlt' : (k : Int) + 1 ≤ m := by omega
      go_wp2_with (first
        | (at_make; refine wpList_make_full _ rfl _ _ 24 rfl wr.heap.size 3 i3 (.int .i64 0) 1 Try.underlying24 hi3 hz3 hs3 .i64 .i64 _ _ cs.length rfl rfl rfl rfl (by rw [hb3]; omega) (by unfold maxLen; omega) (Nat.le_refl _) ?_; intro w3 hown hgrow)
        | fail)
      generalize wr = wo at *
      obtain ⟨g, hg⟩ : ∃ g, g = wo.heap.size := ⟨_, rfl⟩
      rw [made_zero] at hown
      rw [← hg] at hown ⊢
      have HR0 : Hid (w3.ownsRow wo.heap.size 3 1 (.slice (some ⟨g, 0, none⟩) cs.length cs.length) cs.length ((List.replicate cs.length (0 : Int)).map (fun k => Value.int .i64 k))) := by
        show World.ownsRow _ _ _ _ _ _ _
        rw [← hg]
        exact hown
      have HB3 : Hid (Below wo.heap.size wo w3) := (Below.refl wo.heap.size wo).grown hgrow (Nat.le_refl _) (fun k hk => by cases hk)
      have hgl : wo.heap.size ≤ g := by omega
      clear hown hgrow hg
      go_loopw [10] (fun iv wr => ∃ (i : Nat) (xs : List Int), i ≤ cs.length ∧ iv = .int .i64 i ∧ Hid (wr.ownsRow wo.heap.size 3 1 (.slice (some ⟨g, 0, none⟩) cs.length cs.length) cs.length (xs.map (fun k => Value.int .i64 k))) ∧ xs.length = cs.length ∧ Hid (∀ t, t < i → xs[t]? = (rowT cs to k)[t]?) ∧ Hid (Below wo.heap.size wo wr)) (fun iv _ => cs.length - (intOf iv).toNat)
      case atStart => exact ⟨0, _, by omega, rfl, HR0, by simp, fun t h => by omega, HB3⟩
      case round =>
        clear HR0 HB3
        obtain ⟨i, xs, hi, rfl, HR, hxl, HX, HBW⟩ := hrel
        by_cases hil : i < cs.length
        · have hil' : (i : Int) < cs.length := by omega
          obtain ⟨b, off, rfl, hc⟩ := H2.out (by omega)
          have HWR : Hid (Below w.heap.size w wr) := bel_trans HB1.out (bel_trans HB.out HBW.out)
          obtain ⟨c1, c2, c3⟩ := (hc i hil).keep HWR.out
          obtain ⟨s1, s2, s3, s4, s5, s6⟩ := HS.out i hil
          have f4 := HR.out.frozenAt i
          have c4 := HR.out.cellAt i (by omega)
          have e4 : (xs.map (fun k => Value.int .i64 k))[i]? = some (.int .i64 xs[i]) := by simp [show i < xs.length by omega]
          rw [e4] at c4
          clear e4
          have HST := hide (HR.out.stored i (.int .i64 NoW))
          have HR1 : Hid ((wr.setCell ⟨g, i, none⟩ (.int .i64 NoW)).ownsRow wo.heap.size 3 1 (.slice (some ⟨g, 0, none⟩) cs.length cs.length) cs.length ((xs.set i NoW).map (fun k => Value.int .i64 k))) := by
            show World.ownsRow _ _ _ _ _ _ _
            rw [List.map_set]
            exact HST.out.1
          have HBW1 : Hid (Below wo.heap.size wo (wr.setCell ⟨g, i, none⟩ (.int .i64 NoW))) := HBW.out.grown HST.out.2 HBW.out.size (fun k hk => by cases hk; exact hgl)
          have HX1 : Hid (∀ t, t < i → (xs.set i NoW)[t]? = (rowT cs to k)[t]?) := fun t h => by
            rw [List.getElem?_set_ne (by omega)]
            exact HX.out t h
          have HXI : Hid ((xs.set i NoW)[i]? = some NoW) := by show _ = _; rw [List.getElem?_set_self (by omega)]
          have hxl1 : (xs.set i NoW).length = cs.length := by rw [List.length_set]; exact hxl
          clear c1 c2 c3 hc
          go_wp2_with (first
            | (go_at_call 34; refine (l2None_any _).mono ?_; rintro e w' ⟨rfl, hw⟩; subst w')
            | fail)
          clear HST HR HX HBW HWR c4 f4
          generalize wr.setCell ⟨g, i, none⟩ (.int .i64 NoW) = ws at *
          generalize xs.set i NoW = ys at *
          have HWS : Hid (Below W1.heap.size W1 ws) := bel_trans HB.out HBW1.out
          have HCE : Hid (∀ W, Below W1.heap.size W1 W → ∀ j (h : j < cs.length), ConAt W b (off + j * 3) cs[j]) := fun W hW j hj => by
            obtain ⟨b', off', he, hc⟩ := H2.out (by omega)
            simp only [Option.some.injEq, Addr.mk.injEq, and_true] at he
            obtain ⟨rfl, rfl⟩ := he
            exact ((hc j hj).keep HB1.out).keep hW
          have HTE : Hid (∀ W, Below W1.heap.size W1 W → W.cell? ⟨w.heap.size, 0, none⟩ = some (.int .i64 to.a) ∧ W.cell? ⟨w.heap.size, 1, none⟩ = some (.int .i64 to.n) ∧ W.cell? ⟨w.heap.size, 2, none⟩ = some (.int .i64 to.b)) := fun W hW => ⟨keep_cell hW HT.out.1, keep_cell hW HT.out.2.1, keep_cell hW HT.out.2.2⟩
          have HRT : Hid (∀ h : i < cs.length, (rowT cs to k)[i]? = some (vl cs[i].n (ib (cs.map ctC) k (ctC cs[i]).b (ctC to).a))) := fun h => by simp [rowT, h]
          by_cases hk0 : k = 0
          · have HRF : Hid (vl cs[i].n (ib (cs.map ctC) k (ctC cs[i]).b (ctC to).a) = if joinB cs[i] to = true then cs[i].n else NoW) := by
              show _ = _
              rw [hk0]
              exact row_first s3 ht
            have HRT0 := hide (HRT.out hil)
            have HKP : Hid (∀ W, Below W1.heap.size W1 W → W.cell? ⟨b, off + i * 3, none⟩ = some (.int .i64 cs[i].a) ∧ W.cell? ⟨b, off + i * 3 + 1, none⟩ = some (.int .i64 cs[i].n) ∧ W.cell? ⟨b, off + i * 3 + 2, none⟩ = some (.int .i64 cs[i].b) ∧ W.cell? ⟨w.heap.size, 0, none⟩ = some (.int .i64 to.a) ∧ W.cell? ⟨w.heap.size, 1, none⟩ = some (.int .i64 to.n) ∧ W.cell? ⟨w.heap.size, 2, none⟩ = some (.int .i64 to.b)) := fun W hW => by
              obtain ⟨c1, c2, c3⟩ := HCE.out W hW i hil
              exact ⟨c1, c2, c3, HTE.out W hW⟩
            have HJ := hide (l2Joins_any cs[i] to)
            clear HRT HCE HTE
            generalize cs[i] = c at *
            obtain ⟨ca, cn, cb⟩ := c
            simp only at *
            obtain ⟨c1, c2, c3, c5, c6, c7⟩ := HKP.out ws HWS.out
            have hk1 : ((k : Int) + 1 == 1) = true := by rw [hk0]; rfl
            have hk2 : ¬ (1 < (k : Int) + 1) := by omega
            have HK0 := hide hk0
            clear hk0
            go_region_held3 (fun W => W.cell? ⟨b, off + i * 3, none⟩ = some (.int .i64 ca) ∧ W.cell? ⟨b, off + i * 3 + 1, none⟩ = some (.int .i64 cn) ∧ W.cell? ⟨b, off + i * 3 + 2, none⟩ = some (.int .i64 cb) ∧ W.cell? ⟨w.heap.size, 0, none⟩ = some (.int .i64 to.a) ∧ W.cell? ⟨w.heap.size, 1, none⟩ = some (.int .i64 to.n) ∧ W.cell? ⟨w.heap.size, 2, none⟩ = some (.int .i64 to.b))
              (first | go_keep | exact HKP.out _ (bel_trans HWS.out ((Below.refl ws.heap.size ws).drew.trans hb4)) | fail)
              (first | (go_at_call 32; refine (HJ.out _).mono ?_; rintro e w4 ⟨rfl, hb4⟩) | fail)
            rename_i hheld
            have HB4 : Hid (Below ws.heap.size ws w4) := (Below.refl ws.heap.size ws).drew.trans hb4
            have HR4 := hide (row_keep HB4.out HR1.out)
            have HBW4 := hide (bel_trans HBW1.out HB4.out)
            obtain ⟨d1, d2, d3, -⟩ := HKP.out w4 (bel_trans HWS.out HB4.out)
            clear hheld hb4 c1 c2 c3 c5 c6 c7 HKP HR1 HBW1 HJ HB4
            have hw1 : IntKind.i64.wrap ((i : Int) + 1) = (i : Int) + 1 := by rw [IntKind.wrap_i64]; omega
            cases hjb : joinB ⟨ca, cn, cb⟩ to with
            | true =>
              have f4 := HR4.out.frozenAt i
              have c4 := HR4.out.cellAt i (by omega)
              have e4 : (ys.map (fun k => Value.int .i64 k))[i]? = some (.int .i64 ys[i]) := by simp [show i < ys.length by omega]
              rw [e4] at c4
              clear e4
              have HST := hide (HR4.out.stored i (.int .i64 cn))
              have HR5 : Hid ((w4.setCell ⟨g, i, none⟩ (.int .i64 cn)).ownsRow wo.heap.size 3 1 (.slice (some ⟨g, 0, none⟩) cs.length cs.length) cs.length ((ys.set i cn).map (fun k => Value.int .i64 k))) := by
                show World.ownsRow _ _ _ _ _ _ _
                rw [List.map_set]
                exact HST.out.1
              have HBW5 : Hid (Below wo.heap.size wo (w4.setCell ⟨g, i, none⟩ (.int .i64 cn))) := HBW4.out.grown HST.out.2 HBW4.out.size (fun k hk => by cases hk; exact hgl)
              have HX5 : Hid (∀ t, t < i + 1 → (ys.set i cn)[t]? = (rowT cs to k)[t]?) := fun t h => by
                by_cases e : t = i
                · subst e
                  rw [HRT0.out, HRF.out, hjb, List.getElem?_set_self (by omega)]
                  rfl
                · rw [List.getElem?_set_ne (by omega)]
                  exact HX1.out t (by omega)
              have hxl5 : (ys.set i cn).length = cs.length := by rw [List.length_set]; exact hxl1
              go_wp2_with fail
              clear HST HR4 HBW4 c4 f4 d1 d2 d3 HX1 HXI
              generalize w4.setCell ⟨g, i, none⟩ (.int .i64 cn) = w5 at *
              generalize ys.set i cn = zs at *
              go_loopw [11] (fun jv wr => jv = .int .i64 0 ∧ w5 = wr) (fun _ _ => 0)
              case atStart => exact ⟨rfl, rfl⟩
              case round =>
                obtain ⟨rfl, rfl⟩ := hrel
                go_wp2_with fail
                go_roundw
                case rel => exact ⟨i + 1, zs, by omega, by go_num, HR5, hxl5, HX5, HBW5⟩
                case measure => simp [intOf]; omega
            | false =>
              have HX5 : Hid (∀ t, t < i + 1 → ys[t]? = (rowT cs to k)[t]?) := fun t h => by
                by_cases e : t = i
                · subst e
                  rw [HRT0.out, HRF.out, hjb, HXI.out]
                  rfl
                · exact HX1.out t (by omega)
              go_wp2_with fail
              clear d1 d2 d3 HX1 HXI
              go_loopw [11] (fun jv wr => jv = .int .i64 0 ∧ w4 = wr) (fun _ _ => 0)
              case atStart => exact ⟨rfl, rfl⟩
              case round =>
                obtain ⟨rfl, rfl⟩ := hrel
                go_wp2_with fail
                go_roundw
                case rel => exact ⟨i + 1, ys, by omega, by go_num, HR4, hxl1, HX5, HBW4⟩
                case measure => simp [intOf]; omega
          · obtain ⟨p, hp⟩ : ∃ p, k = p + 1 := ⟨k - 1, by omega⟩
            obtain ⟨gr, hgr⟩ : ∃ gr, (∀ W, Below wo.heap.size wo W → W.cell? ⟨go, k, none⟩ = some (.slice (some ⟨gr, 0, none⟩) cs.length cs.length)) ∧ (∀ W, Below wo.heap.size wo W → ∀ j (h : j < cs.length), W.cell? ⟨gr, j, none⟩ = some (.int .i64 (vl cs[j].n (ib (cs.map ctC) p (ctC cs[j]).b (ctC to).a)))) := by
              obtain ⟨rows, h1, h2⟩ := HO.out
              obtain ⟨gr, h3, h4⟩ := h2 p (by omega)
              refine ⟨gr, fun W hW => ?_, fun W hW j hj => ?_⟩
              · refine keep_cell hW ?_
                rw [h1.cellAt k (by omega), hp]
                exact h3
              · refine keep_cell hW ?_
                rw [h4.cellAt j (by omega)]
                simp [rowT, hj]
            have HGR := hide hgr
            clear hgr
            have hk1 : ((k : Int) + 1 == 1) = false := by rw [beq_eq_false_iff_ne]; omega
            have hk2 : (1 < (k : Int) + 1) := by omega
            have HIB : Hid (∀ s home, ib (cs.map ctC) k s home = (cs.map ctC).foldl (stI (cs.map ctC) p home s) none) := fun s home => by rw [hp]; exact ib_succ _ _ _ _
            have hp31 : p ≤ 31 := by omega
            have HK0 := hide hk0
            have HP := hide hp
            clear hk0 hp
            have HRT0 := hide (HRT.out hil)
            have HIN : Hid (∀ c ∈ cs.map ctC, -1000 ≤ c.n ∧ c.n ≤ 1000) := fun c hc => by
              obtain ⟨d, hd, rfl⟩ := List.mem_map.1 hc
              obtain ⟨q, hq, rfl⟩ := List.getElem_of_mem hd
              have := HS.out q hq
              exact ⟨this.2.2.2.2.1, this.2.2.2.2.2⟩
            haveI := bel_ne ws.heap.size ws
            refine wp_region_belH ws.heap.size (by kernel_rfl) (by kernel_rfl) (fun Q' hQ' => ?_)
            repeat (refine QW.step (fun K hK => ?_); go_simp; first | (refine hK _ ?_; clear hK K) | (apply Exists.intro; refine ⟨fun _ => ?_, hK _ ?_⟩; (fail); clear hK K))
            refine QW.nil ?_
            refine hQ'.out _ (fun pw => ?_)
            clear hQ'
            have HR4 : Hid (pw.w'.ownsRow wo.heap.size 3 1 (.slice (some ⟨g, 0, none⟩) cs.length cs.length) cs.length (ys.map (fun k => Value.int .i64 k))) := row_keep pw.h HR1.out
            have HBW4 : Hid (Below wo.heap.size wo pw.w') := bel_trans HBW1.out pw.h
            have HXI0 : Hid (ys[i]? = some (vl cs[i].n (((cs.map ctC).take 0).foldl (stI (cs.map ctC) p (ctC to).a (ctC cs[i]).b) none))) := HXI.out
            clear HR1 HBW1 HWS HXI
            generalize pw.w' = w4 at *
            have hw1 : IntKind.i64.wrap ((i : Int) + 1) = (i : Int) + 1 := by rw [IntKind.wrap_i64]; omega
            go_wp2_with fail
            go_loopw [11] (fun jv wr => ∃ (j : Nat) (zs : List Int), j ≤ cs.length ∧ jv = .int .i64 j ∧ Hid (wr.ownsRow wo.heap.size 3 1 (.slice (some ⟨g, 0, none⟩) cs.length cs.length) cs.length (zs.map (fun k => Value.int .i64 k))) ∧ zs.length = cs.length ∧ Hid (∀ t, t < i → zs[t]? = (rowT cs to k)[t]?) ∧ Hid (zs[i]? = some (vl cs[i].n (((cs.map ctC).take j).foldl (stI (cs.map ctC) p (ctC to).a (ctC cs[i]).b) none))) ∧ Hid (Below wo.heap.size wo wr)) (fun jv _ => cs.length - (intOf jv).toNat)
            case atStart => exact ⟨0, ys, by omega, rfl, HR4, hxl1, HX1, HXI0, HBW4⟩
            case round =>
              clear HR4 HXI0 HBW4 HX1 hxl1
              obtain ⟨j, zs, hj, rfl, HR, hzl, HX, HZI, HBW⟩ := hrel
              by_cases hjl : j < cs.length
              · have hjl' : (j : Int) < cs.length := by omega
                have HWR : Hid (Below W1.heap.size W1 wr) := bel_trans HB.out HBW.out
                obtain ⟨ci1, ci2, ci3⟩ := HCE.out wr HWR.out i hil
                obtain ⟨cj1, cj2, cj3⟩ := HCE.out wr HWR.out j hjl
                have cg := HGR.out.1 wr HBW.out
                have hbg : b ≠ g := by have := lt_cell (HCE.out wo HB.out i hil).1; omega
                have hog : go ≠ g := by have := lt_cell (HGR.out.1 wo (Below.refl _ _)); omega
                have hrg : gr ≠ g := by have := lt_cell (HGR.out.2 wo (Below.refl _ _) j hjl); omega
                have cy := HGR.out.2 wr HBW.out j hjl
                have f4 := HR.out.frozenAt i
                have cx := HR.out.cellAt i (by omega)
                rw [List.getElem?_map, HZI.out] at cx
                obtain ⟨t1, t2, t3, t4, t5, t6⟩ := HS.out j hjl
                have hbI : ∀ t, InO (1000 * (p : Int)) (ib (cs.map ctC) p t (ctC to).a) := fun t => ib_in HIN.out p t _
                have hAcc : InO (1000 * (p : Int) + 1000) (((cs.map ctC).take j).foldl (stI (cs.map ctC) p (ctC to).a (ctC cs[i]).b) none) := foldI_in hbI _ none (fun c hc => HIN.out c (List.mem_of_mem_take hc)) (none_in _)
                have hstep := vl_step (cs := cs.map ctC) (k := p) (home := (ctC to).a) (s := (ctC cs[i]).b) (c := ctC cs[j]) (n := cs[i].n) hAcc (hbI _) ⟨t5, t6⟩ ⟨s5, s6⟩ (by omega)
                have hxin := vl_in hAcc ⟨s5, s6⟩ (by omega)
                have hyin := vl_in (hbI (ctC cs[j]).b) ⟨t5, t6⟩ (by omega)
                have htk : ((cs.map ctC).take (j + 1)).foldl (stI (cs.map ctC) p (ctC to).a (ctC cs[i]).b) none = stI (cs.map ctC) p (ctC to).a (ctC cs[i]).b (((cs.map ctC).take j).foldl (stI (cs.map ctC) p (ctC to).a (ctC cs[i]).b) none) (ctC cs[j]) := by
                  rw [List.take_succ_eq_append_getElem (by simpa using hjl), List.foldl_append]
                  simp
                rw [← htk, jn_ct s3 t1] at hstep
                have HJ0 := hide (l2Joins_any cs[i] cs[j])
                have HZN : Hid (∀ x, vl cs[i].n (((cs.map ctC).take (j + 1)).foldl (stI (cs.map ctC) p (ctC to).a (ctC cs[i]).b) none) = x → ∀ us : List Int, us[i]? = some x → us[i]? = some (vl cs[i].n (((cs.map ctC).take (j + 1)).foldl (stI (cs.map ctC) p (ctC to).a (ctC cs[i]).b) none))) := fun x hx us hu => by rw [hx]; exact hu
                have hdn : (ctC cs[j]).n = cs[j].n := rfl
                rw [hdn] at hstep
                obtain ⟨X, hX⟩ : ∃ X, vl cs[i].n (((cs.map ctC).take j).foldl (stI (cs.map ctC) p (ctC to).a (ctC cs[i]).b) none) = X := ⟨_, rfl⟩
                obtain ⟨Y, hY⟩ : ∃ Y, vl cs[j].n (ib (cs.map ctC) p (ctC cs[j]).b (ctC to).a) = Y := ⟨_, rfl⟩
                obtain ⟨J, hJ⟩ : ∃ J, joinB cs[i] cs[j] = J := ⟨_, rfl⟩
                obtain ⟨N, hN⟩ : ∃ N, vl cs[i].n (((cs.map ctC).take (j + 1)).foldl (stI (cs.map ctC) p (ctC to).a (ctC cs[i]).b) none) = N := ⟨_, rfl⟩
                rw [hX] at cx hxin hstep
                rw [hY] at cy hyin hstep
                rw [hJ] at hstep
                rw [hN] at hstep
                have HJ1 : Hid (∀ w : World, Calls Try.prog 32 #[.agg #[.int .i64 cs[i].a, .int .i64 cs[i].n, .int .i64 cs[i].b], .agg #[.int .i64 cs[j].a, .int .i64 cs[j].n, .int .i64 cs[j].b]] w fun e w' => e = .returned (.bool J) ∧ Below w.heap.size w w') := fun w => by rw [← hJ]; exact HJ0.out w
                have HZ2 := hide (HZN.out N hN)
                have HZX : Hid (zs[i]? = some X) := by show _ = _; rw [← hX]; exact HZI.out
                clear hX hY hJ hN HJ0 HZN htk hAcc hbI hdn HZI
                obtain ⟨ca, hca⟩ : ∃ x, cs[i].a = x := ⟨_, rfl⟩
                obtain ⟨cn, hcn⟩ : ∃ x, cs[i].n = x := ⟨_, rfl⟩
                obtain ⟨cb, hcb⟩ : ∃ x, cs[i].b = x := ⟨_, rfl⟩
                obtain ⟨da, hda⟩ : ∃ x, cs[j].a = x := ⟨_, rfl⟩
                obtain ⟨dn, hdn⟩ : ∃ x, cs[j].n = x := ⟨_, rfl⟩
                obtain ⟨db, hdb⟩ : ∃ x, cs[j].b = x := ⟨_, rfl⟩
                have HJ : Hid (∀ w : World, Calls Try.prog 32 #[.agg #[.int .i64 ca, .int .i64 cn, .int .i64 cb], .agg #[.int .i64 da, .int .i64 dn, .int .i64 db]] w fun e w' => e = .returned (.bool J) ∧ Below w.heap.size w w') := by
                  have h := HJ1.out
                  rw [hca, hcn, hcb, hda, hdn, hdb] at h
                  exact h
                rw [hca] at ci1
                rw [hcn] at ci2 hstep s5 s6
                rw [hcb] at ci3
                rw [hda] at cj1
                rw [hdn] at cj2
                rw [hdb] at cj3
                clear hca hcn hcb hda hdn hdb HJ1 t1 t2 t3 t4 t5 t6
                have hYb : -1099511627776 ≤ Y ∧ Y ≤ 1000000 := by unfold NoW at hyin; omega
                have hXb : -1099511627776 ≤ X ∧ X ≤ 1000000 := by unfold NoW at hxin; omega
                clear hxin hyin
                have hws : IntKind.i64.wrap (cn + Y) = cn + Y := by rw [IntKind.wrap_i64]; omega
                have hwk : IntKind.i64.wrap ((k : Int) + 1 - 1) = (k : Int) := by rw [IntKind.wrap_i64]; omega
                have hwk3 : IntKind.i64.wrap (k : Int) = (k : Int) := by rw [IntKind.wrap_i64]; omega
                have hwk2 : (k : Int) + 1 - 1 = (k : Int) := by omega
                have hwj : IntKind.i64.wrap ((j : Int) + 1) = (j : Int) + 1 := by rw [IntKind.wrap_i64]; omega
                have hkk : (k : Int) < (k : Int) + 1 := by omega
                have HSTEP := hide hstep
                clear hstep
                haveI := bel_ne wr.heap.size wr
                have ca1 : ∀ q : Bel wr.heap.size wr, q.w'.cell? ⟨b, off + i * 3, none⟩ = some (.int .i64 ca) := fun q => keep_cell q.h ci1
                have ca2 : ∀ q : Bel wr.heap.size wr, q.w'.cell? ⟨b, off + i * 3 + 1, none⟩ = some (.int .i64 cn) := fun q => keep_cell q.h ci2
                have ca3 : ∀ q : Bel wr.heap.size wr, q.w'.cell? ⟨b, off + i * 3 + 2, none⟩ = some (.int .i64 cb) := fun q => keep_cell q.h ci3
                have da1 : ∀ q : Bel wr.heap.size wr, q.w'.cell? ⟨b, off + j * 3, none⟩ = some (.int .i64 da) := fun q => keep_cell q.h cj1
                have da2 : ∀ q : Bel wr.heap.size wr, q.w'.cell? ⟨b, off + j * 3 + 1, none⟩ = some (.int .i64 dn) := fun q => keep_cell q.h cj2
                have da3 : ∀ q : Bel wr.heap.size wr, q.w'.cell? ⟨b, off + j * 3 + 2, none⟩ = some (.int .i64 db) := fun q => keep_cell q.h cj3
                have ga1 : ∀ q : Bel wr.heap.size wr, q.w'.cell? ⟨go, k, none⟩ = some (.slice (some ⟨gr, 0, none⟩) cs.length cs.length) := fun q => keep_cell q.h cg
                have ya1 : ∀ q : Bel wr.heap.size wr, q.w'.cell? ⟨gr, j, none⟩ = some (.int .i64 Y) := fun q => keep_cell q.h cy
                have xa1 : ∀ q : Bel wr.heap.size wr, q.w'.cell? ⟨g, i, none⟩ = some (.int .i64 X) := fun q => keep_cell q.h cx
                go_wp2_with fail
                try simp only [List.append]
                cases J with
                | false =>
                  have HNX : Hid (N = X) := by show _ = _; rw [HSTEP.out, if_neg (fun h => by cases h.1)]
                  refine wp_region_belH wr.heap.size (by kernel_rfl) (by kernel_rfl) (fun Q' hQ' => ?_)
                  repeat (refine QW.step (fun K hK => ?_); go_simp; first | (refine hK _ ?_; clear hK K) | (apply Exists.intro; refine ⟨fun _ => ?_, hK _ ?_⟩; (first | (go_at_call 32; exact calls_bel (Nat.le_refl _) (HJ.out _)) | (go_at_call 34; exact calls_bel_same (l2None_any _))); clear hK K))
                  refine QW.nil ?_
                  refine hQ'.out _ (fun q => ?_)
                  clear hQ'
                  have HR2 : Hid (q.w'.ownsRow wo.heap.size 3 1 (.slice (some ⟨g, 0, none⟩) cs.length cs.length) cs.length (zs.map (fun k => Value.int .i64 k))) := row_keep q.h HR.out
                  have HB2 : Hid (Below wo.heap.size wo q.w') := bel_trans HBW.out q.h
                  clear HR HBW
                  go_wp2_with fail
                  go_roundw
                  case rel => exact ⟨j + 1, zs, by omega, by go_num, HR2, hzl, HX, HZ2.out zs (by rw [HZX.out, HNX.out]), HB2⟩
                  case measure => simp [intOf]; omega
                | true =>
                  by_cases hny : NoW < Y
                  · have d1 : decide (NoW < Y) = true := decide_eq_true hny
                    by_cases hxy : X < cn + Y
                    · have d2 : decide (X < cn + Y) = true := decide_eq_true hxy
                      have HNX : Hid (N = cn + Y) := by show _ = _; rw [HSTEP.out, if_pos ⟨rfl, hny, hxy⟩]
                      clear hny hxy
                      refine wp_region_belH wr.heap.size (by kernel_rfl) (by kernel_rfl) (fun Q' hQ' => ?_)
                      repeat (refine QW.step (fun K hK => ?_); go_simp; first | (refine hK _ ?_; clear hK K) | (apply Exists.intro; refine ⟨fun _ => ?_, hK _ ?_⟩; (first | (go_at_call 32; exact calls_bel (Nat.le_refl _) (HJ.out _)) | (go_at_call 34; exact calls_bel_same (l2None_any _))); clear hK K))
                      refine QW.nil ?_
                      refine hQ'.out _ (fun q => ?_)
                      clear hQ'
                      have HR2 := hide (row_keep q.h HR.out)
                      have HB2 := hide (bel_trans HBW.out q.h)
                      have f5 := HR2.out.frozenAt i
                      have HST := hide (HR2.out.stored i (.int .i64 (cn + Y)))
                      have HR3 : Hid ((q.w'.setCell ⟨g, i, none⟩ (.int .i64 (cn + Y))).ownsRow wo.heap.size 3 1 (.slice (some ⟨g, 0, none⟩) cs.length cs.length) cs.length ((zs.set i (cn + Y)).map (fun k => Value.int .i64 k))) := by
                        show World.ownsRow _ _ _ _ _ _ _
                        rw [List.map_set]
                        exact HST.out.1
                      have HZ3 : Hid ((zs.set i (cn + Y))[i]? = some N) := by show _ = _; rw [List.getElem?_set_self (by omega), HNX.out]
                      have HX3 : Hid (∀ t, t < i → (zs.set i (cn + Y))[t]? = (rowT cs to k)[t]?) := fun t h => by
                        rw [List.getElem?_set_ne (by omega)]
                        exact HX.out t h
                      have hzl3 : (zs.set i (cn + Y)).length = cs.length := by rw [List.length_set]; exact hzl
                      have e2 := ca2 q
                      have e3 := ga1 q
                      have e4 := ya1 q
                      have e5 := xa1 q
                      clear ca1 ca2 ca3 da1 da2 da3 ga1 ya1 xa1 ci1 ci2 ci3 cj1 cj2 cj3 cg cy cx f4
                      generalize q.w' = w6 at *
                      have hst := HST.out.2
                      have HB3 : Hid (Below wo.heap.size wo (w6.setCell ⟨g, i, none⟩ (.int .i64 (cn + Y)))) := HB2.out.grown hst HB2.out.size (fun k hk => by cases hk; exact hgl)
                      have HR4 : Hid ((w6.drew.setCell ⟨g, i, none⟩ (.int .i64 (cn + Y))).ownsRow wo.heap.size 3 1 (.slice (some ⟨g, 0, none⟩) cs.length cs.length) cs.length ((zs.set i (cn + Y)).map (fun k => Value.int .i64 k))) := by
                        have h := HR2.out.drew.stored i (.int .i64 (cn + Y))
                        show World.ownsRow _ _ _ _ _ _ _
                        rw [List.map_set]
                        exact h.1
                      have HB4 : Hid (Below wo.heap.size wo (w6.drew.setCell ⟨g, i, none⟩ (.int .i64 (cn + Y)))) := HB2.out.drew.setCell (p := ⟨g, i, none⟩) hgl _
                      have HKE : Hid ((w6.setCell ⟨g, i, none⟩ (.int .i64 (cn + Y))).drew.cell? ⟨b, off + i * 3 + 1, none⟩ = some (.int .i64 cn) ∧ (w6.setCell ⟨g, i, none⟩ (.int .i64 (cn + Y))).drew.cell? ⟨go, k, none⟩ = some (.slice (some ⟨gr, 0, none⟩) cs.length cs.length) ∧ (w6.setCell ⟨g, i, none⟩ (.int .i64 (cn + Y))).drew.cell? ⟨gr, j, none⟩ = some (.int .i64 Y)) :=
                        ⟨(World.cell?_setCell_other _ _ _ _ (by first | (simp; done) | (simp; omega))).trans e2, (World.cell?_setCell_other _ _ _ _ (by first | (simp; done) | (simp; omega))).trans e3, (World.cell?_setCell_other _ _ _ _ (by first | (simp; done) | (simp; omega))).trans e4⟩
                      clear hst HST HR3 HB3 HR2 HB2 HR HBW
                      go_wp2_with fail
                      go_region_held3 (fun w' => w'.cell? ⟨b, off + i * 3 + 1, none⟩ = some (.int .i64 cn) ∧ w'.cell? ⟨go, k, none⟩ = some (.slice (some ⟨gr, 0, none⟩) cs.length cs.length) ∧ w'.cell? ⟨gr, j, none⟩ = some (.int .i64 Y))
                        (first | exact HKE.out | (refine ⟨HKE.out.1, HKE.out.2.1, HKE.out.2.2⟩) | go_keep | fail)
                        (fail)
                      go_wp2_with fail
                      go_roundw
                      case rel => exact ⟨j + 1, _, by omega, by go_num, HR4, hzl3, HX3, HZ2.out _ HZ3.out, HB4⟩
                      case measure => simp [intOf]; omega
                    · have d2 : decide (X < cn + Y) = false := decide_eq_false hxy
                      have HNX : Hid (N = X) := by show _ = _; rw [HSTEP.out, if_neg (fun h => hxy h.2.2)]
                      clear hny hxy
                      refine wp_region_belH wr.heap.size (by kernel_rfl) (by kernel_rfl) (fun Q' hQ' => ?_)
                      repeat (refine QW.step (fun K hK => ?_); go_simp; first | (refine hK _ ?_; clear hK K) | (apply Exists.intro; refine ⟨fun _ => ?_, hK _ ?_⟩; (first | (go_at_call 32; exact calls_bel (Nat.le_refl _) (HJ.out _)) | (go_at_call 34; exact calls_bel_same (l2None_any _))); clear hK K))
                      refine QW.nil ?_
                      refine hQ'.out _ (fun q => ?_)
                      clear hQ'
                      have HR2 : Hid (q.w'.ownsRow wo.heap.size 3 1 (.slice (some ⟨g, 0, none⟩) cs.length cs.length) cs.length (zs.map (fun k => Value.int .i64 k))) := row_keep q.h HR.out
                      have HB2 : Hid (Below wo.heap.size wo q.w') := bel_trans HBW.out q.h
                      clear HR HBW
                      go_wp2_with fail
                      go_roundw
                      case rel => exact ⟨j + 1, zs, by omega, by go_num, HR2, hzl, HX, HZ2.out zs (by rw [HZX.out, HNX.out]), HB2⟩
                      case measure => simp [intOf]; omega
                  · have d1 : decide (NoW < Y) = false := decide_eq_false hny
                    have HNX : Hid (N = X) := by show _ = _; rw [HSTEP.out, if_neg (fun h => hny h.2.1)]
                    clear hny
                    refine wp_region_belH wr.heap.size (by kernel_rfl) (by kernel_rfl) (fun Q' hQ' => ?_)
                    repeat (refine QW.step (fun K hK => ?_); go_simp; first | (refine hK _ ?_; clear hK K) | (apply Exists.intro; refine ⟨fun _ => ?_, hK _ ?_⟩; (first | (go_at_call 32; exact calls_bel (Nat.le_refl _) (HJ.out _)) | (go_at_call 34; exact calls_bel_same (l2None_any _))); clear hK K))
                    refine QW.nil ?_
                    refine hQ'.out _ (fun q => ?_)
                    clear hQ'
                    have HR2 : Hid (q.w'.ownsRow wo.heap.size 3 1 (.slice (some ⟨g, 0, none⟩) cs.length cs.length) cs.length (zs.map (fun k => Value.int .i64 k))) := row_keep q.h HR.out
                    have HB2 : Hid (Below wo.heap.size wo q.w') := bel_trans HBW.out q.h
                    clear HR HBW
                    go_wp2_with fail
                    go_roundw
                    case rel => exact ⟨j + 1, zs, by omega, by go_num, HR2, hzl, HX, HZ2.out zs (by rw [HZX.out, HNX.out]), HB2⟩
                    case measure => simp [intOf]; omega
              · have hjl' : ¬ (j : Int) < cs.length := by omega
                have HX5 : Hid (∀ t, t < i + 1 → zs[t]? = (rowT cs to k)[t]?) := fun t h => by
                  by_cases e : t = i
                  · rw [e, HRT0.out, HZI.out, HIB.out, List.take_of_length_le (by simp; omega)]
                  · exact HX.out t (by omega)
                go_wp2_with fail
                go_roundw
                case rel => exact ⟨i + 1, zs, by omega, by go_num, HR, hzl, HX5, HBW⟩
                case measure => simp [intOf]; omega
        · have hil' : ¬ (i : Int) < cs.length := by omega
          have ei : i = cs.length := by omega
          have hxs : xs = rowT cs to k := by
            refine List.ext_getElem? (fun t => ?_)
            by_cases e : t < cs.length
            · exact HX.out t (by omega)
            · rw [List.getElem?_eq_none (by omega), List.getElem?_eq_none (by rw [rowT_len]; omega)]
          subst ei
          subst hxs
          have hszW := HB.out.size
          have hszB := HBW.out.size
          obtain ⟨rows, ho4, hsn⟩ := OutAt.snoc HO.out HBW.out hszW HR.out
          have HO4 := hide ho4
          have HSN := hide hsn
          clear ho4 hsn
          have hwk : IntKind.i64.wrap ((k : Int) + 1 + 1) = (k : Int) + 1 + 1 := by rw [IntKind.wrap_i64]; omega
          go_wp2_with (first
            | (at_builtin
               refine wpList_append_lies _ rfl _ _ 56 rfl W1.heap.size 24 i24 (.slice none 0 0) 1 24 Try.underlying56 hi24 hz24 hs24 hb24 rfl (by omega) (.slice (some ⟨go, 0, none⟩) (k + 1) co) (k + 1) rows rfl (HO4.out.alloc _) ⟨wr.heap.size, 0, none⟩ 1 1 [.slice (some ⟨g, 0, none⟩) cs.length cs.length] rfl rfl (cell_one_new _ _ _) (by intro u hu; simp at hu; rcases hu with rfl; rfl) (by omega) (by unfold maxLen; omega) (by omega) (by simp; omega) _ rfl ?_)
            | fail)
          intro g5 cap5 w5 hown5 hgrow5 hat5 hlt5
          rw [← hs1] at hown5
          have HO5 := hide (HSN.out _ g5 cap5 w5 hown5 hgrow5)
          have HB5 : Hid (Below W1.heap.size W1 w5) := (bel_alloc (bel_trans HB.out HBW.out) _).grown hgrow5 (by simp; omega) (fun q hq => by cases hq; exact (World.ownsRow.lt HO4.out go rfl).1)
          clear hown5 hgrow5 hat5 hlt5 HSN HO4
          go_wp2_with fail
          go_roundw
          case rel => exact ⟨k + 1, g5, cap5, by omega, by go_num, rfl, HO5, HB5⟩
          case measure => simp [intOf]; omega
    · have hlt' : ¬ (k : Int) + 1 ≤ m := by omega
      have ek : k = m := by omega
      subst ek
      have HO2 : Hid (OutAt w.heap.size cs to wr (.slice (some ⟨go, 0, none⟩) (k + 1) co) (k + 1)) := by
        obtain ⟨rows, h1, h2⟩ := HO.out
        exact ⟨rows, row_le h1 (by omega), fun t ht => by obtain ⟨gr, h3, h4⟩ := h2 t ht; exact ⟨gr, h3, row_le h4 (by omega)⟩⟩
      clear HO
      go_wp2_with fail
      go_ret
      exact ⟨_, rfl, HO2.out, bel_trans HB1.out HB.out⟩
end Go.Proofs.Yteedainidoldoaa
