/- What putHole and the function that it gives to change answer. -/
import Derived.Test.YtjkkojefpecbfaaGreatSpI
namespace Go.Proofs.YtjkkojefpecbfaaGreat
open Go.ChangeShapes Go.WideShapes Go.ChangeAt Go.RowKit

/-- What putting in holes keeps at hand. -/
def PhInv (Sb ab ch cl ca cr c2 : Nat) (hole : Int) (r : Int) (w : World) : Prop := w.cell? ⟨cl, 0, none⟩ = some (.func (.func 156) #[] #[.pointer (some ⟨cr, 0, none⟩), .pointer (some ⟨c2, 0, none⟩)]) ∧ w.cell? ⟨ca, 0, none⟩ = some (.pointer (some ⟨ab, 0, none⟩)) ∧ w.cell? ⟨ch, 0, none⟩ = some (.int .i64 hole) ∧ RoomAt w cr r ∧ w.cell? ⟨c2, 0, none⟩ = some (.pointer (some ⟨Sb, 0, none⟩))
theorem PhInv.same {Sb ab ch cl ca cr c2 : Nat} {hole : Int} (r : Int) (w w' : World) (h : PhInv Sb ab ch cl ca cr c2 hole r w) (hh : ∀ b ∈ [ch, cl, ca, cr, c2], w'.heap[b]? = w.heap[b]?) : PhInv Sb ab ch cl ca cr c2 hole r w' :=
  ⟨heap_cell (hh cl (by simp)) h.1, heap_cell (hh ca (by simp)) h.2.1, heap_cell (hh ch (by simp)) h.2.2.1, (hh cr (by simp)).trans h.2.2.2.1, heap_cell (hh c2 (by simp)) h.2.2.2.2⟩
theorem PhInv.keep {Sb ab ch cl ca cr c2 : Nat} {hole r : Int} {w w' : World} (h : PhInv Sb ab ch cl ca cr c2 hole r w) (hb : Below w.heap.size w w') : PhInv Sb ab ch cl ca cr c2 hole r w' :=
  ⟨keep_cell hb h.1, keep_cell hb h.2.1, keep_cell hb h.2.2.1, (hb.block cr (Array.getElem?_eq_some_iff.1 h.2.2.2.1).1).trans h.2.2.2.1, keep_cell hb h.2.2.2.2⟩
theorem enter126 : ∀ args w, (callFunc 126 args).run Tryz.prog w = .ok (.enter 126 args) w := fun _ _ => by kernel_rfl
set_option maxRecDepth 20000 in
set_option maxHeartbeats 8000000 in
theorem phF_ok (base Sb mb gb ab ch cl ca cr c2 : Nat) (A : Tt) (hole U : Int) (hA : A.all nodeP) (hU : U ≤ 100000) (hne : ∀ x ∈ [ch, cl, ca, cr, c2], x ≠ mb) (hcr : base ≤ cr) (hn2 : ch ≠ cr ∧ cl ≠ cr ∧ ca ≠ cr ∧ c2 ≠ cr) : KnowOk base Sb mb gb (fun k => k = mb ∨ k = cr) [ch, cl, ca, cr, c2] [(A, ab)] (RoomOk holeP) (PhInv Sb ab ch cl ca cr c2 hole) (knowH A hole) 126 (.pointer (some ⟨ch, 0, none⟩)) (.pointer (some ⟨cl, 0, none⟩)) (.pointer (some ⟨ca, 0, none⟩)) U := by
  intro T b u r w clock L Z H hs hbase hT hP hu0 hu1 haa hroom hI hbl hCs
  have hIA : IsT L A ab := haa (A, ab) (by simp)
  obtain ⟨hvp, hrc, hr0, hr1⟩ := hroom
  have hz := ist_z hs T.cnt T b (Nat.le_refl _) hT
  obtain ⟨ps, c, hpl, hm, _⟩ := ist_open hT
  obtain ⟨lv, ls, nb, _⟩ := (hs.ents _ hm).node
  have nb : NbAt w b (tmL (keyP T.hd ps) lv (Z b) (H b)) := nb
  rw [hz] at nb
  have hbm := (ist_lt hs hT).2.2.1
  have a0 : w.cell? ⟨b, 0, none⟩ = some (.int .i64 T.hd.k) := by rw [nb.cell 0 (by omega)]; rfl
  have a1 : w.cell? ⟨b, 1, none⟩ = some (.int .i64 T.hd.n) := by rw [nb.cell 1 (by omega)]; rfl
  have a11 : w.cell? ⟨b, 11, none⟩ = some (.bool T.z.ho) := by rw [nb.cell 11 (by omega)]; rfl
  have hAl := lt_cell a0
  obtain ⟨i0, i1, i2, i3, i4⟩ := hI
  have hl0 := lt_cell i0
  have hl1 := lt_cell i1
  have hl2 := lt_cell i2
  have hl4 := lt_cell i4
  have hl3 : cr < w.heap.size := (Array.getElem?_eq_some_iff.1 i3).1
  have hcp := T.cnt_pos
  have HNE := hide hne
  have HTT := hide hT
  have HS := hide hs
  have HBS := hide hbase
  have HI : Hid (PhInv Sb ab ch cl ca cr c2 hole r w) := ⟨i0, i1, i2, i3, i4⟩
  have HN2 := hide hn2
  have HLF := hide (fun (W : World) (hW : Below w.heap.size w W) => lifter1_any base Sb mb gb clock cr c2 L Z H A ab u r W (hs.keep hW hbase) (Nat.le_trans hbase hW.size) hIA hA (by omega) (by omega) ((hW.block cr hl3).trans i3) (keep_cell hW i4) hcr hn2.2.2.2)
  clear nb hz hne hT hs hbase hm hbl hCs hP hvp haa hIA hA hn2 hrc
  have p0 : ∀ p : Bel w.heap.size w, p.w'.cell? ⟨b, 0, none⟩ = some (.int .i64 T.hd.k) := fun p => p.cell hAl a0
  have p1 : ∀ p : Bel w.heap.size w, p.w'.cell? ⟨b, 1, none⟩ = some (.int .i64 T.hd.n) := fun p => p.cell hAl a1
  have p2 : ∀ p : Bel w.heap.size w, p.w'.cell? ⟨ch, 0, none⟩ = some (.int .i64 hole) := fun p => p.cell hl2 i2
  haveI := bel_ne w.heap.size w
  by_cases h1 : T.hd.k = 9
  · have q1 : (T.hd.k == 9) = true := by simp [h1]
    by_cases h2 : T.hd.n = hole
    · have q2 : (T.hd.n == hole) = true := by simp [h2]
      have HE : Hid (knowH A hole T u r = (some (if r - ((A.cnt - 1 : Nat) : Int) < 0 then none else (chgS (knowL 0 u) A 0 ()).1), r - ((A.cnt - 1 : Nat) : Int))) := by show _ = _; unfold knowH; rw [if_pos ⟨h1, h2⟩]
      rw [HE.out]
      have h156 := enter156
      unfold LftOut at HLF
      generalize (if r - ((A.cnt - 1 : Nat) : Int) < 0 then none else (chgS (knowL 0 u) A 0 ()).1) = rr at *
      generalize r - ((A.cnt - 1 : Nat) : Int) = r2 at *
      clear h1 h2 HE
      go_enter Tryz.func126, Tryz.ntmps126
      go_wp2_with fail
      refine wp_region_belH w.heap.size (by kernel_rfl) (by kernel_rfl) (fun Q' hQ' => ?_)
      repeat (refine QW.step (fun K hK => ?_); go_simp; first | (refine hK _ ?_; clear hK K) | fail)
      refine QW.nil ?_
      refine hQ'.out _ (fun p => ?_)
      clear hQ' p0 p1 p2
      obtain ⟨V, hV⟩ : ∃ V, V = p.w' := ⟨_, rfl⟩
      have hbV : Below w.heap.size w V := by rw [hV]; exact p.h
      rw [← hV]
      clear hV
      have HLV := hide (HLF.out V hbV)
      have HKV := hide (KeptX.of (C := fun k => k = mb ∨ k = cr) hbV)
      have i0' := keep_cell hbV i0
      have i1' := keep_cell hbV i1
      have i2' := keep_cell hbV i2
      have i4' := keep_cell hbV i4
      have hl0' := lt_cell i0'
      have hl1' := lt_cell i1'
      have hl2' := lt_cell i2'
      have hl4' := lt_cell i4'
      clear hbV HLF a0 a1 a11
      go_wp2_with fail
      refine HLV.out.mono ?_
      rintro e w1 ⟨b', clock', L', Z', H', rfl, g1, g2, g3, g4, g5⟩
      have H1 := hide g1
      have H2 := hide g2
      have H3 := hide (HKV.out.trans g3)
      have H5 := hide g5
      have hq : ∀ x ∈ [ch, cl, ca, cr, c2], x ≠ cr → x < V.heap.size → w1.heap[x]? = V.heap[x]? := fun x hx hxr hxl => g3.block x hxl (fun h => h.elim (HNE.out x hx) hxr)
      have HI1 : Hid (PhInv Sb ab ch cl ca cr c2 hole r2 w1) := ⟨heap_cell (hq cl (by simp) HN2.out.2.1 hl0') i0', heap_cell (hq ca (by simp) HN2.out.2.2.1 hl1') i1', heap_cell (hq ch (by simp) HN2.out.1 hl2') i2', g4, heap_cell (hq c2 (by simp) HN2.out.2.2.2 hl4') i4'⟩
      clear g1 g2 g3 g4 g5 hq
      go_wp2_with fail
      refine bodyPost_ret (v := .tuple #[.pointer (some ⟨b', 0, none⟩), .bool true]) (by simp [results, Tryz.results126, go_sem]) rfl ?_
      exact ⟨clock', L', Z', H', H1.out, H2.out, H3.out, HI1.out, .inr ⟨_, b', rfl, rfl, H5.out⟩⟩
    · have q2 : (T.hd.n == hole) = false := by simp [h2]
      have HE : Hid (knowH A hole T u r = (some (some T), r)) := by show _ = _; unfold knowH; rw [if_neg (fun h => h2 h.2), if_pos (.inr h1)]
      rw [HE.out]
      clear h1 h2 HE HLF
      by_cases h3 : T.z.ho = true
      · go_enter Tryz.func126, Tryz.ntmps126
        go_wp2_with fail
        refine wp_region_belH w.heap.size (by kernel_rfl) (by kernel_rfl) (fun Q' hQ' => ?_)
        repeat (refine QW.step (fun K hK => ?_); go_simp; first | (refine hK _ ?_; clear hK K) | fail)
        refine QW.nil ?_
        refine hQ'.out _ (fun p => ?_)
        clear hQ' p0 p1 p2
        obtain ⟨V, hV⟩ : ∃ V, V = p.w' := ⟨_, rfl⟩
        have hbV : Below w.heap.size w V := by rw [hV]; exact p.h
        rw [← hV]
        clear hV
        have a0 := keep_cell hbV a0
        have a11 := keep_cell hbV a11
        have hAv := lt_cell a0
        have p0 : ∀ p : Bel V.heap.size V, p.w'.cell? ⟨b, 0, none⟩ = some (.int .i64 T.hd.k) := fun p => p.cell hAv a0
        have p11 : ∀ p : Bel V.heap.size V, p.w'.cell? ⟨b, 11, none⟩ = some (.bool T.z.ho) := fun p => p.cell hAv a11
        haveI := bel_ne V.heap.size V
        have HBV := hide hbV
        clear hbV
        rw [h3] at p11
        go_wp2_with fail
        refine wp_region_belH V.heap.size (by kernel_rfl) (by kernel_rfl) (fun Q' hQ' => ?_)
        repeat (refine QW.step (fun K hK => ?_); go_simp; first | (refine hK _ ?_; clear hK K) | fail)
        refine QW.nil ?_
        refine hQ'.out _ (fun p => ?_)
        clear hQ' p0 p11
        have HBV := hide (bel_trans HBV.out p.h)
        go_wp2_with fail
        refine bodyPost_ret (v := .tuple #[.pointer (some ⟨b, 0, none⟩), .bool true]) (by simp [results, Tryz.results126, go_sem]) rfl ?_
        exact ⟨clock, L, Z, H, HS.out.keep HBV.out HBS.out, fun x hx => hx, KeptX.of HBV.out, HI.out.keep HBV.out, .inr ⟨some T, b, rfl, rfl, HTT.out⟩⟩
      · have h3 : T.z.ho = false := by simpa using h3
        go_enter Tryz.func126, Tryz.ntmps126
        go_wp2_with fail
        refine wp_region_belH w.heap.size (by kernel_rfl) (by kernel_rfl) (fun Q' hQ' => ?_)
        repeat (refine QW.step (fun K hK => ?_); go_simp; first | (refine hK _ ?_; clear hK K) | fail)
        refine QW.nil ?_
        refine hQ'.out _ (fun p => ?_)
        clear hQ' p0 p1 p2
        obtain ⟨V, hV⟩ : ∃ V, V = p.w' := ⟨_, rfl⟩
        have hbV : Below w.heap.size w V := by rw [hV]; exact p.h
        rw [← hV]
        clear hV
        have a0 := keep_cell hbV a0
        have a11 := keep_cell hbV a11
        have hAv := lt_cell a0
        have p0 : ∀ p : Bel V.heap.size V, p.w'.cell? ⟨b, 0, none⟩ = some (.int .i64 T.hd.k) := fun p => p.cell hAv a0
        have p11 : ∀ p : Bel V.heap.size V, p.w'.cell? ⟨b, 11, none⟩ = some (.bool T.z.ho) := fun p => p.cell hAv a11
        haveI := bel_ne V.heap.size V
        have HBV := hide hbV
        clear hbV
        rw [h3] at p11
        go_wp2_with fail
        refine wp_region_belH V.heap.size (by kernel_rfl) (by kernel_rfl) (fun Q' hQ' => ?_)
        repeat (refine QW.step (fun K hK => ?_); go_simp; first | (refine hK _ ?_; clear hK K) | fail)
        refine QW.nil ?_
        refine hQ'.out _ (fun p => ?_)
        clear hQ' p0 p11
        have HBV := hide (bel_trans HBV.out p.h)
        go_wp2_with fail
        refine bodyPost_ret (v := .tuple #[.pointer (some ⟨b, 0, none⟩), .bool true]) (by simp [results, Tryz.results126, go_sem]) rfl ?_
        exact ⟨clock, L, Z, H, HS.out.keep HBV.out HBS.out, fun x hx => hx, KeptX.of HBV.out, HI.out.keep HBV.out, .inr ⟨some T, b, rfl, rfl, HTT.out⟩⟩
  · have q1 : (T.hd.k == 9) = false := by simp [h1]
    by_cases h3 : T.z.ho = true
    · have HE : Hid (knowH A hole T u r = (none, r)) := by show _ = _; unfold knowH; rw [if_neg (fun h => h1 h.1), if_neg (fun h => h.elim (fun e => by rw [h3] at e; cases e) h1)]
      rw [HE.out]
      clear h1 HE HLF
      go_enter Tryz.func126, Tryz.ntmps126
      go_wp2_with fail
      refine wp_region_belH w.heap.size (by kernel_rfl) (by kernel_rfl) (fun Q' hQ' => ?_)
      repeat (refine QW.step (fun K hK => ?_); go_simp; first | (refine hK _ ?_; clear hK K) | fail)
      refine QW.nil ?_
      refine hQ'.out _ (fun p => ?_)
      clear hQ' p0 p1 p2
      obtain ⟨V, hV⟩ : ∃ V, V = p.w' := ⟨_, rfl⟩
      have hbV : Below w.heap.size w V := by rw [hV]; exact p.h
      rw [← hV]
      clear hV
      have a0 := keep_cell hbV a0
      have a11 := keep_cell hbV a11
      have hAv := lt_cell a0
      have p0 : ∀ p : Bel V.heap.size V, p.w'.cell? ⟨b, 0, none⟩ = some (.int .i64 T.hd.k) := fun p => p.cell hAv a0
      have p11 : ∀ p : Bel V.heap.size V, p.w'.cell? ⟨b, 11, none⟩ = some (.bool T.z.ho) := fun p => p.cell hAv a11
      haveI := bel_ne V.heap.size V
      have HBV := hide hbV
      clear hbV
      rw [h3] at p11
      go_wp2_with fail
      refine wp_region_belH V.heap.size (by kernel_rfl) (by kernel_rfl) (fun Q' hQ' => ?_)
      repeat (refine QW.step (fun K hK => ?_); go_simp; first | (refine hK _ ?_; clear hK K) | fail)
      refine QW.nil ?_
      refine hQ'.out _ (fun p => ?_)
      clear hQ' p0 p11
      have HBV := hide (bel_trans HBV.out p.h)
      go_wp2_with fail
      refine bodyPost_ret (v := .tuple #[.pointer (some ⟨b, 0, none⟩), .bool false]) (by simp [results, Tryz.results126, go_sem]) rfl ?_
      exact ⟨clock, L, Z, H, HS.out.keep HBV.out HBS.out, fun x hx => hx, KeptX.of HBV.out, HI.out.keep HBV.out, .inl ⟨rfl, _, rfl⟩⟩
    · have h3 : T.z.ho = false := by simpa using h3
      have HE : Hid (knowH A hole T u r = (some (some T), r)) := by show _ = _; unfold knowH; rw [if_neg (fun h => h1 h.1), if_pos (.inl h3)]
      rw [HE.out]
      clear h1 HE HLF
      go_enter Tryz.func126, Tryz.ntmps126
      go_wp2_with fail
      refine wp_region_belH w.heap.size (by kernel_rfl) (by kernel_rfl) (fun Q' hQ' => ?_)
      repeat (refine QW.step (fun K hK => ?_); go_simp; first | (refine hK _ ?_; clear hK K) | fail)
      refine QW.nil ?_
      refine hQ'.out _ (fun p => ?_)
      clear hQ' p0 p1 p2
      obtain ⟨V, hV⟩ : ∃ V, V = p.w' := ⟨_, rfl⟩
      have hbV : Below w.heap.size w V := by rw [hV]; exact p.h
      rw [← hV]
      clear hV
      have a0 := keep_cell hbV a0
      have a11 := keep_cell hbV a11
      have hAv := lt_cell a0
      have p0 : ∀ p : Bel V.heap.size V, p.w'.cell? ⟨b, 0, none⟩ = some (.int .i64 T.hd.k) := fun p => p.cell hAv a0
      have p11 : ∀ p : Bel V.heap.size V, p.w'.cell? ⟨b, 11, none⟩ = some (.bool T.z.ho) := fun p => p.cell hAv a11
      haveI := bel_ne V.heap.size V
      have HBV := hide hbV
      clear hbV
      rw [h3] at p11
      go_wp2_with fail
      refine wp_region_belH V.heap.size (by kernel_rfl) (by kernel_rfl) (fun Q' hQ' => ?_)
      repeat (refine QW.step (fun K hK => ?_); go_simp; first | (refine hK _ ?_; clear hK K) | fail)
      refine QW.nil ?_
      refine hQ'.out _ (fun p => ?_)
      clear hQ' p0 p11
      have HBV := hide (bel_trans HBV.out p.h)
      go_wp2_with fail
      refine bodyPost_ret (v := .tuple #[.pointer (some ⟨b, 0, none⟩), .bool true]) (by simp [results, Tryz.results126, go_sem]) rfl ?_
      exact ⟨clock, L, Z, H, HS.out.keep HBV.out HBS.out, fun x hx => hx, KeptX.of HBV.out, HI.out.keep HBV.out, .inr ⟨some T, b, rfl, rfl, HTT.out⟩⟩
set_option maxRecDepth 20000 in
set_option maxHeartbeats 4000000 in
theorem putHole_any (base Sb mb gb clock : Nat) (L : List (Nk × Nat × Nat)) (Z : Nat → Zs) (H : Nat → Bool) (T A : Tt) (b ab : Nat) (hole : Int) (w : World) (hs : St base w Sb mb gb clock L Z H) (hbase : base ≤ w.heap.size) (hT : IsT L T b) (hP : T.all nodeP) (hTA : IsT L A ab) (hPA : A.all nodeP) :
    Calls Tryz.prog 78 #[.pointer (some ⟨Sb, 0, none⟩), .pointer (some ⟨b, 0, none⟩), .int .i64 hole, .pointer (some ⟨ab, 0, none⟩)] w (WithOut base Sb mb gb L (fitT (fillR A hole T 0)) w) := by
  have hmf : ∀ (fn : Fn) (first cap : Array Value) (w : World), (Instr.makeFunc fn first cap).run Tryz.prog w = .ok (.func fn first cap) w := fun _ _ _ _ => rfl
  have hsf : ∀ (a : Addr) (f : Fn) (x y : Array Value) (w : World), (store a (.func f x y)).run Tryz.prog w = stored Tryz.prog w a (.func f x y) .plain := fun a f x y w => run_store Tryz.prog w a _ _ rfl
  have hcT := (ist_lt hs hT).1
  have hcA := (ist_lt hs hTA).1
  obtain ⟨W, hW⟩ : ∃ W, W = (w.alloc (.cells #[.int .i64 hole] 3)).alloc (.cells #[.pointer (some ⟨ab, 0, none⟩)] 80) := ⟨_, rfl⟩
  have hbW : Below w.heap.size w W := by rw [hW]; exact bel_alloc (bel_alloc (Below.refl _ _) _) _
  have HWs : Hid (W.heap.size = w.heap.size + 2) := by show _ = _; rw [hW]; simp
  have c0 : W.cell? ⟨w.heap.size, 0, none⟩ = some (.int .i64 hole) := by rw [hW]; simp [go_sem]
  have c1 : W.cell? ⟨w.heap.size + 1, 0, none⟩ = some (.pointer (some ⟨ab, 0, none⟩)) := by rw [hW]; simp [go_sem]
  have l0 := lt_cell c0
  have l1 := lt_cell c1
  have hml : mb < w.heap.size := (Array.getElem?_eq_some_iff.1 hs.mp).1
  have hsW := hs.keep hbW hbase
  have hz := ist_z hsW T.cnt T b (Nat.le_refl _) hT
  obtain ⟨ps, c, hpl, hm, _⟩ := ist_open hT
  obtain ⟨lv, ls, nb, _⟩ := (hsW.ents _ hm).node
  have nb : NbAt W b (tmL (keyP T.hd ps) lv (Z b) (H b)) := nb
  rw [hz] at nb
  have a9 : W.cell? ⟨b, 9, none⟩ = some (.int .i64 (T.cnt : Int)) := by rw [nb.cell 9 (by omega), ← T.z_sz]; rfl
  have HLF := hide (lifter_any Sb b T.cnt W a9 hcT)
  have HS := hide hsW
  have HBW := hide hbW
  have HT := hide hT
  have HP := hide hP
  have HTA := hide hTA
  have HPA := hide hPA
  have HPB := hide (fill_both A hole T (all_mono node_var hPA) hcA (all_mono node_hole hP) hcT)
  clear hs hsW hbW hT hP hTA hPA nb hz hm a9
  go_enter Tryz.func78, Tryz.ntmps78
  go_upto_region 1 with fail
  rw [← hW]
  clear hW
  go_wp2_with fail
  refine HLF.out.mono ?_
  rintro e w2 ⟨rfl, hr2, hs2, hb2⟩
  have hWs := HWs.out
  obtain ⟨W3, hW3⟩ : ∃ W3, W3 = w2.alloc (.cells #[.func (.func 156) #[] #[.pointer (some ⟨W.heap.size + 1, 0, none⟩), .pointer (some ⟨W.heap.size, 0, none⟩)]] 161) := ⟨_, rfl⟩
  have hb3 : Below w2.heap.size w2 W3 := by rw [hW3]; exact bel_alloc (Below.refl _ _) _
  have c2 : W3.cell? ⟨w2.heap.size, 0, none⟩ = some (.func (.func 156) #[] #[.pointer (some ⟨W.heap.size + 1, 0, none⟩), .pointer (some ⟨W.heap.size, 0, none⟩)]) := by rw [hW3]; simp [go_sem]
  have l2 := lt_cell c2
  have hbb := bel_trans hb2 hb3
  have hrl2 : W.heap.size + 1 < w2.heap.size := (Array.getElem?_eq_some_iff.1 hr2).1
  have hI : PhInv Sb ab w.heap.size w2.heap.size (w.heap.size + 1) (W.heap.size + 1) W.heap.size hole (20000 - (T.cnt : Int)) W3 := ⟨c2, keep_cell hbb c1, keep_cell hbb c0, (hb3.block _ hrl2).trans hr2, keep_cell hb3 hs2⟩
  have hlt : ∀ x ∈ [w.heap.size, w2.heap.size, w.heap.size + 1, W.heap.size + 1, W.heap.size], x < W3.heap.size := fun x hx => by
    simp only [List.mem_cons, List.not_mem_nil, or_false] at hx
    rcases hx with e | e | e | e | e <;> omega
  have hne : ∀ x ∈ [w.heap.size, w2.heap.size, w.heap.size + 1, W.heap.size + 1, W.heap.size], x ≠ mb := fun x hx => by
    simp only [List.mem_cons, List.not_mem_nil, or_false] at hx
    rcases hx with e | e | e | e | e <;> omega
  have hmlo : base ≤ mb := HS.out.lows.2
  have HC := hide (change_any base Sb mb gb (fun k => k = mb ∨ k = W.heap.size + 1) [w.heap.size, w2.heap.size, w.heap.size + 1, W.heap.size + 1, W.heap.size] [(A, ab)] (RoomOk holeP) (PhInv Sb ab w.heap.size w2.heap.size (w.heap.size + 1) (W.heap.size + 1) W.heap.size hole) (knowH A hole) 126 (.pointer (some ⟨w.heap.size, 0, none⟩)) (.pointer (some ⟨w2.heap.size, 0, none⟩)) (.pointer (some ⟨w.heap.size + 1, 0, none⟩)) 100000 enter126 (.inl rfl) (fun k hk => by rcases hk with e | e <;> omega) (fun s w w' h hh => h.same s w w' hh) (fill_pre A hole (all_mono node_var HPA.out) hcA)
    (hide (phF_ok base Sb mb gb ab _ _ _ _ _ A hole 100000 HPA.out (by omega) hne (by omega) (by omega))) (by omega) hne T b (20000 - (T.cnt : Int)) W3 clock L Z H (HS.out.keep hbb (by omega)) (by omega) HT.out HP.out (by omega) (fun p hp => by simp only [List.mem_singleton] at hp; subst hp; exact HTA.out) ⟨all_mono node_hole HP.out, hcT, by omega, by omega⟩ hI hlt (fun k hk => by rcases hk with e | e <;> omega))
  have c0 := keep_cell hbb c0
  have HB3 := hide (bel_trans HBW.out hbb)
  have hcr : w.heap.size ≤ W.heap.size + 1 := by omega
  clear hWs hrl2
  clear hr2 hs2 hb2 hb3 hbb hI hlt hne HLF HS c1 c2 l0 l1
  have l0 := lt_cell c0
  have HRES := HPB
  generalize chgS (knowH A hole) T 0 (20000 - (T.cnt : Int)) = r at *
  go_upto_region 2 with fail
  rw [← hW3]
  clear hW3
  go_wp2_with fail
  refine HC.out.mono ?_
  rintro e w1 ⟨b', clock', L', Z', H', rfl, h1, h2, h3, h4, h5⟩
  have H1 := hide h1
  have H2 := hide h2
  have H3 : Hid (w.grownBy w1 (some mb)) := grown_kept ((KeptX.of HB3.out).trans h3) (by omega)
  have H5 : Hid (Res gb L' (fitT (fillR A hole T 0)) b') := by show Res _ _ _ _; rw [← HRES.out]; exact h5
  clear h1 h2 h3 h4 h5
  go_wp2_with fail
  go_ret
  exact ⟨b', clock', L', Z', H', rfl, H1.out, H2.out, H5.out, H3.out⟩
end Go.Proofs.YtjkkojefpecbfaaGreat
