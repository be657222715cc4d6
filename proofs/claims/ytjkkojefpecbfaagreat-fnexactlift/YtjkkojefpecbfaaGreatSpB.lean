/- What the specification's l3With answers. -/
import Derived.Test.YtjkkojefpecbfaaGreatSpA
namespace Go.Proofs.YtjkkojefpecbfaaGreat
open Go.ChangeShapes Go.WideShapes Go.ChangeAt Go.RowKit

set_option maxRecDepth 20000 in
set_option maxHeartbeats 4000000 in
theorem l3With_any (R : Nat → Prop) (T : Tt) (p : Nat) (ts : List Tt) (ps : List Nat) (kdv : Value) (w : World) (hT : SpG R w T p) (hP : numP T.hd T.kids.length) (hl : ps.length = ts.length) (h3 : ts.length ≤ 3) (hk : PtrRowQ R w kdv ps) (hs : ∀ j (h1 : j < ps.length) (h2 : j < ts.length), SpG R w ts[j] ps[j]) (hn : ∀ t ∈ ts, t.all numP) (h1 : T.hd.k = 1 → ts = []) :
    Calls Tryz.prog 109 #[.pointer (some ⟨p, 0, none⟩), kdv] w fun e w' => ∃ p', e = .returned (ptrV p') ∧ SpG R w' (Tt.mk T.hd ts) p' ∧ Below w.heap.size w w' := by
  obtain ⟨qs, _, ⟨lvv, kv, tn, _, hlv⟩, _⟩ := spg_open hT
  have tn : TnAt 0 w p (tnL T.hd.k T.hd.n T.hd.m T.hd.s lvv kv T.zG) := tn
  have hlv : LevRowF R w lvv T.hd.lv := hlv
  have HM := hide (fun (V : World) (hb : Below w.heap.size w V) => make_tree (Q := R) (R := R) (h := T.hd) (ts := ts) (ps := ps) (lvv := lvv) (kdv := kdv) (w := V) hl h3 (hlv.keep hb) (hk.to (fun b hq _ => ⟨hq, fun o u hu => keep_cell hb hu⟩)) (fun j q1 q2 => (hs j q1 q2).keep hb) hn hP h1 rfl)
  obtain ⟨la, lc, lps, rfl⟩ : ∃ la lc lps, lvv = .slice la lps lc := by obtain ⟨ps, us, e1, ⟨a, cap, rfl, _⟩, _⟩ := hlv; exact ⟨_, _, _, rfl⟩
  obtain ⟨ka, kc, rfl⟩ : ∃ ka kc, kdv = .slice ka ps.length kc := by obtain ⟨a, cap, rfl, _⟩ := hk; exact ⟨_, _, rfl⟩
  have a0 : w.cell? ⟨p, 0, none⟩ = some (.int .i64 T.hd.k) := by rw [World.ownsRow.cellAt tn 0 (by omega)]; rfl
  have a1 : w.cell? ⟨p, 1, none⟩ = some (.int .i64 T.hd.n) := by rw [World.ownsRow.cellAt tn 1 (by omega)]; rfl
  have a2 : w.cell? ⟨p, 2, none⟩ = some (.int .i64 T.hd.m) := by rw [World.ownsRow.cellAt tn 2 (by omega)]; rfl
  have a3 : w.cell? ⟨p, 3, none⟩ = some (.string T.hd.s) := by rw [World.ownsRow.cellAt tn 3 (by omega)]; rfl
  have a4 : w.cell? ⟨p, 4, none⟩ = some (.slice la lps lc) := by rw [World.ownsRow.cellAt tn 4 (by omega)]; rfl
  have hpl := lt_cell a0
  have HG := hide (fun (wx : World) (h : Below w.heap.size w wx) => And.intro (keep_cell h a0) (And.intro (keep_cell h a1) (And.intro (keep_cell h a2) (And.intro (keep_cell h a3) (keep_cell h a4)))))
  have hS0 : (fun w' : World => Below w.heap.size w w') w.drew := (Below.refl _ _).drew
  have HD := hide hS0
  clear tn hlv hT hs hn hk hl h1 hP a0 a1 a2 a3 a4
  go_enter Tryz.func109, Tryz.ntmps109
  go_wp2_with fail
  refine anyE_region (L := 22) (S := fun w' : World => Below w.heap.size w w') (by kernel_rfl) ?_
  refine anyE_take 0 (v := ?v1) rfl (by kernel_rfl) (by kernel_rfl) (by kernel_rfl) (by kernel_rfl) (fun _ _ _ h => h) (by rfl) ?hy1 hS0 ?rest1
  case hy1 =>
    intro wx hx
    obtain ⟨m0, m1, m2, m3, m4⟩ := HG.out wx hx
    go_simp
    try rfl
  case rest1 =>
  intro K hK
  go_simp
  refine hK.out _ ?_
  clear hK K
  refine anyE_take 1 (v := ?v2) rfl (by kernel_rfl) (by kernel_rfl) (by kernel_rfl) (by kernel_rfl) (fun _ _ _ h => h) (by rfl) ?hy2 hS0 ?rest2
  case hy2 =>
    intro wx hx
    obtain ⟨m0, m1, m2, m3, m4⟩ := HG.out wx hx
    go_simp
    try rfl
  case rest2 =>
  intro K hK
  go_simp
  refine hK.out _ ?_
  clear hK K
  refine anyE_take 2 (v := ?v3) rfl (by kernel_rfl) (by kernel_rfl) (by kernel_rfl) (by kernel_rfl) (fun _ _ _ h => h) (by rfl) ?hy3 hS0 ?rest3
  case hy3 =>
    intro wx hx
    obtain ⟨m0, m1, m2, m3, m4⟩ := HG.out wx hx
    go_simp
    try rfl
  case rest3 =>
  intro K hK
  go_simp
  refine hK.out _ ?_
  clear hK K
  refine anyE_take 3 (v := ?v4) rfl (by kernel_rfl) (by kernel_rfl) (by kernel_rfl) (by kernel_rfl) (fun _ _ _ h => h) (by rfl) ?hy4 hS0 ?rest4
  case hy4 =>
    intro wx hx
    obtain ⟨m0, m1, m2, m3, m4⟩ := HG.out wx hx
    go_simp
    try rfl
  case rest4 =>
  intro K hK
  go_simp
  refine hK.out _ ?_
  clear hK K
  refine anyE_take 4 (v := ?v5) rfl (by kernel_rfl) (by kernel_rfl) (by kernel_rfl) (by kernel_rfl) (fun _ _ _ h => h) (by rfl) ?hy5 hS0 ?rest5
  case hy5 =>
    intro wx hx
    obtain ⟨m0, m1, m2, m3, m4⟩ := HG.out wx hx
    go_simp
    try rfl
  case rest5 =>
  intro K hK
  go_simp
  refine hK.out _ ?_
  clear hK K
  refine anyE_take 5 (v := ?v6) rfl (by kernel_rfl) (by kernel_rfl) (by kernel_rfl) (by kernel_rfl) (fun _ _ _ h => h) (by rfl) ?hy6 hS0 ?rest6
  case hy6 =>
    intro wx hx
    obtain ⟨m0, m1, m2, m3, m4⟩ := HG.out wx hx
    go_simp
    try rfl
  case rest6 =>
  intro K hK
  go_simp
  refine hK.out _ ?_
  clear hK K
  refine anyE_take 6 (v := ?v7) rfl (by kernel_rfl) (by kernel_rfl) (by kernel_rfl) (by kernel_rfl) (fun _ _ _ h => h) (by rfl) ?hy7 hS0 ?rest7
  case hy7 =>
    intro wx hx
    obtain ⟨m0, m1, m2, m3, m4⟩ := HG.out wx hx
    go_simp
    try rfl
  case rest7 =>
  intro K hK
  go_simp
  refine hK.out _ ?_
  clear hK K
  refine anyE_take 7 (v := ?v8) rfl (by kernel_rfl) (by kernel_rfl) (by kernel_rfl) (by kernel_rfl) (fun _ _ _ h => h) (by rfl) ?hy8 hS0 ?rest8
  case hy8 =>
    intro wx hx
    obtain ⟨m0, m1, m2, m3, m4⟩ := HG.out wx hx
    go_simp
    try rfl
  case rest8 =>
  intro K hK
  go_simp
  refine hK.out _ ?_
  clear hK K
  refine anyE_take 8 (v := ?v9) rfl (by kernel_rfl) (by kernel_rfl) (by kernel_rfl) (by kernel_rfl) (fun _ _ _ h => h) (by rfl) ?hy9 hS0 ?rest9
  case hy9 =>
    intro wx hx
    obtain ⟨m0, m1, m2, m3, m4⟩ := HG.out wx hx
    go_simp
    try rfl
  case rest9 =>
  intro K hK
  go_simp
  refine hK.out _ ?_
  clear hK K
  refine anyE_take 9 (v := ?v10) rfl (by kernel_rfl) (by kernel_rfl) (by kernel_rfl) (by kernel_rfl) (fun _ _ _ h => h) (by rfl) ?hy10 hS0 ?rest10
  case hy10 =>
    intro wx hx
    obtain ⟨m0, m1, m2, m3, m4⟩ := HG.out wx hx
    go_simp
    try rfl
  case rest10 =>
  intro K hK
  go_simp
  refine hK.out _ ?_
  clear hK K
  refine anyE_take 10 (v := ?v11) rfl (by kernel_rfl) (by kernel_rfl) (by kernel_rfl) (by kernel_rfl) (fun _ _ _ h => h) (by rfl) ?hy11 hS0 ?rest11
  case hy11 =>
    intro wx hx
    obtain ⟨m0, m1, m2, m3, m4⟩ := HG.out wx hx
    go_simp
    try rfl
  case rest11 =>
  intro K hK
  go_simp
  refine hK.out _ ?_
  clear hK K
  refine anyE_take 11 (v := ?v12) rfl (by kernel_rfl) (by kernel_rfl) (by kernel_rfl) (by kernel_rfl) (fun _ _ _ h => h) (by rfl) ?hy12 hS0 ?rest12
  case hy12 =>
    intro wx hx
    obtain ⟨m0, m1, m2, m3, m4⟩ := HG.out wx hx
    go_simp
    try rfl
  case rest12 =>
  intro K hK
  go_simp
  refine hK.out _ ?_
  clear hK K
  refine anyE_take 12 (v := ?v13) rfl (by kernel_rfl) (by kernel_rfl) (by kernel_rfl) (by kernel_rfl) (fun _ _ _ h => h) (by rfl) ?hy13 hS0 ?rest13
  case hy13 =>
    intro wx hx
    obtain ⟨m0, m1, m2, m3, m4⟩ := HG.out wx hx
    go_simp
    try rfl
  case rest13 =>
  intro K hK
  go_simp
  refine hK.out _ ?_
  clear hK K
  refine anyE_take 13 (v := ?v14) rfl (by kernel_rfl) (by kernel_rfl) (by kernel_rfl) (by kernel_rfl) (fun _ _ _ h => h) (by rfl) ?hy14 hS0 ?rest14
  case hy14 =>
    intro wx hx
    obtain ⟨m0, m1, m2, m3, m4⟩ := HG.out wx hx
    go_simp
    try rfl
  case rest14 =>
  intro K hK
  go_simp
  refine hK.out _ ?_
  clear hK K
  refine anyE_take 14 (v := ?v15) rfl (by kernel_rfl) (by kernel_rfl) (by kernel_rfl) (by kernel_rfl) (fun _ _ _ h => h) (by rfl) ?hy15 hS0 ?rest15
  case hy15 =>
    intro wx hx
    obtain ⟨m0, m1, m2, m3, m4⟩ := HG.out wx hx
    go_simp
    try rfl
  case rest15 =>
  intro K hK
  go_simp
  refine hK.out _ ?_
  clear hK K
  refine anyE_take 15 (v := ?v16) rfl (by kernel_rfl) (by kernel_rfl) (by kernel_rfl) (by kernel_rfl) (fun _ _ _ h => h) (by rfl) ?hy16 hS0 ?rest16
  case hy16 =>
    intro wx hx
    obtain ⟨m0, m1, m2, m3, m4⟩ := HG.out wx hx
    go_simp
    try rfl
  case rest16 =>
  intro K hK
  go_simp
  refine hK.out _ ?_
  clear hK K
  refine anyE_take 16 (v := ?v17) rfl (by kernel_rfl) (by kernel_rfl) (by kernel_rfl) (by kernel_rfl) (fun _ _ _ h => h) (by rfl) ?hy17 hS0 ?rest17
  case hy17 =>
    intro wx hx
    obtain ⟨m0, m1, m2, m3, m4⟩ := HG.out wx hx
    go_simp
    try rfl
  case rest17 =>
  intro K hK
  go_simp
  refine hK.out _ ?_
  clear hK K
  refine anyE_take 17 (v := ?v18) rfl (by kernel_rfl) (by kernel_rfl) (by kernel_rfl) (by kernel_rfl) (fun _ _ _ h => h) (by rfl) ?hy18 hS0 ?rest18
  case hy18 =>
    intro wx hx
    obtain ⟨m0, m1, m2, m3, m4⟩ := HG.out wx hx
    go_simp
    try rfl
  case rest18 =>
  intro K hK
  go_simp
  refine hK.out _ ?_
  clear hK K
  refine anyE_take 18 (v := ?v19) rfl (by kernel_rfl) (by kernel_rfl) (by kernel_rfl) (by kernel_rfl) (fun _ _ _ h => h) (by rfl) ?hy19 hS0 ?rest19
  case hy19 =>
    intro wx hx
    obtain ⟨m0, m1, m2, m3, m4⟩ := HG.out wx hx
    go_simp
    try rfl
  case rest19 =>
  intro K hK
  go_simp
  refine hK.out _ ?_
  clear hK K
  refine anyE_take 19 (v := ?v20) rfl (by kernel_rfl) (by kernel_rfl) (by kernel_rfl) (by kernel_rfl) (fun _ _ _ h => h) (by rfl) ?hy20 hS0 ?rest20
  case hy20 =>
    intro wx hx
    obtain ⟨m0, m1, m2, m3, m4⟩ := HG.out wx hx
    go_simp
    try rfl
  case rest20 =>
  intro K hK
  go_simp
  refine hK.out _ ?_
  clear hK K
  refine anyE_take 20 (v := ?v21) rfl (by kernel_rfl) (by kernel_rfl) (by kernel_rfl) (by kernel_rfl) (fun _ _ _ h => h) (by rfl) ?hy21 hS0 ?rest21
  case hy21 =>
    intro wx hx
    obtain ⟨m0, m1, m2, m3, m4⟩ := HG.out wx hx
    go_simp
    try rfl
  case rest21 =>
  intro K hK
  go_simp
  refine hK.out _ ?_
  clear hK K
  refine anyE_one 21 (by kernel_rfl) rfl (fun K hK => ?_)
  go_simp

  refine (HM.out w.drew HD.out).mono ?_
  rintro e w1 ⟨rfl, g1, g2⟩
  have H1 := hide g1
  have H2 : Below w.heap.size w w1 := HD.out.trans g2
  have HH2 := hide H2
  clear g1 g2
  refine hK.out _ _ (fun _ => H2) ?_
  clear hK K H2
  refine anyE_one 22 (by kernel_rfl) rfl (fun K hK => ?_)
  go_simp
  refine hK.out _ _ (fun h => absurd rfl h) ?_
  clear hK K
  refine anyE_done (by kernel_rfl) ?_ _
  go_wp2_with fail
  go_ret
  exact ⟨w.heap.size, rfl, H1.out, HH2.out⟩
end Go.Proofs.YtjkkojefpecbfaaGreat
