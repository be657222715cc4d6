/- What the store's function node answers where the node would be too great. -/
import Derived.Test.YtjkkojefpecbfaaGreatStF
import Derived.Test.YtjkkojefpecbfaaGreatStG
import Derived.Test.YtjkkojefpecbfaaGreatTrI
namespace Go.Proofs.YtjkkojefpecbfaaGreat
open Go.ChangeShapes Go.WideShapes Go.ChangeAt Go.RowKit

/-- A key whose kids are nodes of the store, or the one that is too great. -/
structure KeyG (gb : Nat) (L : List (Nk × Nat × Nat)) (q : Nk) : Prop where
  k0 : 0 ≤ tkidsN q.k
  kid : ∀ j : Nat, (j : Int) < tkidsN q.k → (∃ y ∈ L, q.kid j = some y.2.1) ∨ q.kid j = some gb
  nok : ∀ j : Nat, tkidsN q.k ≤ (j : Int) → q.kid j = none
theorem KeyG.ok {base : Nat} {w : World} {Sb mb gb clock : Nat} {L : List (Nk × Nat × Nat)} {Z : Nat → Zs} {H : Nat → Bool} {q : Nk} (h : KeyG gb L q) (hs : St base w Sb mb gb clock L Z H) : KeyOk w q := by
  refine kid_all q (P := PtrOk w) (fun j => ?_)
  by_cases hj : (j : Int) < tkidsN q.k
  · rcases h.kid j hj with ⟨y, hy, e⟩ | e
    · intro b hb
      rw [e] at hb
      obtain ⟨cs, h1⟩ := (hs.ents y hy).ptr
      exact ⟨cs, 131, by rw [← Option.some.inj hb]; exact h1⟩
    · intro b hb
      rw [e] at hb
      obtain ⟨cs, h1⟩ := nb_heap hs.great
      exact ⟨cs, 131, by rw [← Option.some.inj hb]; exact h1⟩
  · rw [h.nok j (by omega)]; exact PtrOk.nil w
/-- A key that is too great is not there. -/
theorem keyG_none {base : Nat} {w : World} {Sb mb gb clock : Nat} {L : List (Nk × Nat × Nat)} {Z : Nat → Zs} {H : Nat → Bool} {q : Nk} (hs : St base w Sb mb gb clock L Z H) (_hq : KeyG gb L q) (hsz : 20000 < (zmk q.k q.n (kidZ (upd Z gb ⟨20001, 0, false⟩) q)).sz) : findQ q L 0 = none := by
  cases hf : findQ q L 0 with
  | none => rfl
  | some r =>
    exfalso
    obtain ⟨x, hx, hxq, _⟩ := findQ_some (j := r.1) (v := r.2) hf
    have he := hs.ents x hx
    rw [hxq] at he
    have hz : kidZ (upd Z gb ⟨20001, 0, false⟩) q = kidZ Z q := by
      unfold kidZ
      apply List.map_congr_left
      intro j hj
      obtain ⟨y, hy, e⟩ := he.kid j (by have := he.k0; have := List.mem_range.1 hj; omega)
      rw [e]
      exact upd_ne _ _ _ (hs.gne y hy)
    rw [hz] at hsz
    have h1 := he.ok.2
    rw [he.z] at h1
    have h2 : (zmk q.k q.n (kidZ Z q)).sz ≤ 20000 := h1
    omega

set_option maxRecDepth 20000 in
set_option maxHeartbeats 8000000 in
theorem node_great (base Sb mb gb clock : Nat) (L : List (Nk × Nat × Nat)) (Z : Nat → Zs) (H : Nat → Bool) (q : Nk) (lv : Value) (ls : List (List Nd)) (w : World) (hs : St base w Sb mb gb clock L Z H) (hbase : base ≤ w.heap.size) (hq : KeyG gb L q) (hlv : ∀ w', Below base w w' → LevsAt w' lv ls) (hsp : q.sp = ⟨(spell ls).toArray⟩) (hl : ls.length ≤ 1048576) (hll : ∀ l ∈ ls, l.length ≤ 1048576) (hn : q.k = 1 → 0 ≤ q.n ∧ q.n ≤ 20000) (hsz : 20000 < (zmk q.k q.n (kidZ (upd Z gb ⟨20001, 0, false⟩) q)).sz) :
    Calls Tryz.prog 98 #[.pointer (some ⟨Sb, 0, none⟩), q.val, lv] w (fun e w' => e = .returned (.pointer (some ⟨gb, 0, none⟩)) ∧ St base w' Sb mb gb clock L Z H ∧ Below w.heap.size w w') := by
  have hf := keyG_none hs hq hsz
  obtain ⟨W, hW⟩ : ∃ W, W = w.alloc (.cells #[.int .i64 q.k, .int .i64 q.n, .int .i64 q.m, .string q.s, .string q.sp, pv q.p0, pv q.p1, pv q.p2] 129) := ⟨_, rfl⟩
  obtain ⟨V, hV⟩ : ∃ V, V = W.drew := ⟨_, rfl⟩
  have hbW : Below w.heap.size w W := by rw [hW]; exact bel_alloc (Below.refl _ _) _
  have hbV : Below w.heap.size w V := by rw [hV]; exact hbW.drew
  have hsV : St base V Sb mb gb clock L Z H := hs.keep hbV hbase
  have hbaseV : base ≤ V.heap.size := Nat.le_trans hbase hbV.size
  have hhk : V.heap[w.heap.size]? = some (.cells #[.int .i64 q.k, .int .i64 q.n, .int .i64 q.m, .string q.s, .string q.sp, pv q.p0, pv q.p1, pv q.p2] 129 (0, 0)) := by rw [hV, hW]; exact heap_alloc_new w _
  have hkl : w.heap.size < V.heap.size := (Array.getElem?_eq_some_iff.1 hhk).1
  have HWl : Hid (W.heap.size = V.heap.size ∧ w.heap.size < W.heap.size ∧ Sb < W.heap.size) := by
    have h1 : Sb < V.heap.size := (Array.getElem?_eq_some_iff.1 hsV.sb).1
    rw [hV] at h1 hkl ⊢
    exact ⟨rfl, hkl, h1⟩
  have hkc : ∀ (V' : World), Below V.heap.size V V' → ∀ (o : Nat) (v : Value), #[Value.int .i64 q.k, .int .i64 q.n, .int .i64 q.m, .string q.s, .string q.sp, pv q.p0, pv q.p1, pv q.p2][o]? = some v → V'.cell? ⟨w.heap.size, o, none⟩ = some v := fun V' hb o v hv => by
    rw [Lib.cell_of_heap (by rw [hb.block _ hkl]; exact hhk)]; exact hv
  have g0 : V.cell? ⟨w.heap.size, 0, none⟩ = some (.int .i64 q.k) := hkc V (Below.refl _ _) 0 _ rfl
  have g1 : V.cell? ⟨w.heap.size, 1, none⟩ = some (.int .i64 q.n) := hkc V (Below.refl _ _) 1 _ rfl
  have g2 : V.cell? ⟨w.heap.size, 2, none⟩ = some (.int .i64 q.m) := hkc V (Below.refl _ _) 2 _ rfl
  have g3 : V.cell? ⟨w.heap.size, 3, none⟩ = some (.string q.s) := hkc V (Below.refl _ _) 3 _ rfl
  have g4 : V.cell? ⟨w.heap.size, 4, none⟩ = some (.string q.sp) := hkc V (Below.refl _ _) 4 _ rfl
  have g5 : V.cell? ⟨w.heap.size, 5, none⟩ = some (pv q.p0) := hkc V (Below.refl _ _) 5 _ rfl
  have g6 : V.cell? ⟨w.heap.size, 6, none⟩ = some (pv q.p1) := hkc V (Below.refl _ _) 6 _ rfl
  have g7 : V.cell? ⟨w.heap.size, 7, none⟩ = some (pv q.p2) := hkc V (Below.refl _ _) 7 _ rfl
  have s0 := hsV.cell.1
  obtain ⟨rv, rb, hr⟩ : ∃ rv rb, lookV (findQ q L 0) = .tuple #[rv, .bool rb] := by
    cases findQ q L 0 with
    | none => exact ⟨_, _, rfl⟩
    | some r => exact ⟨_, _, rfl⟩
  have hlk : (Instr.lookup 146 (.map (some mb)) (.agg #[.int .i64 q.k, .int .i64 q.n, .int .i64 q.m, .string q.s, .string q.sp, pv q.p0, pv q.p1, pv q.p2]) true).run Tryz.prog V = .ok (.tuple #[rv, .bool rb]) V := by
    rw [← hr]
    exact run_look q mb clock L V (hq.ok hsV) hsV.keys hsV.mp
  have HKC := hide hkc
  have HS := hide hsV
  have HBV := hide hbV
  have HLV := hide (fun w' (h : Below base V w') => hlv w' ((hbV.mono hbase).trans h))
  have HQ := hide hq
  have HSP := hide hsp
  have HR := hide hr
  have HB := hide hbaseV
  have HKL := hide hkl
  have HN := hide hn
  have HLL := hide hll
  have HSZ := hide hsz
  have HW := hide hW
  have HV := hide hV
  have hWl := HWl.out
  have hSl : Sb < V.heap.size := by rw [← hWl.1]; exact hWl.2.2
  obtain ⟨la, lc, rfl, _, _, _⟩ := hlv w (Below.refl _ _)
  have hS0 : (fun w' : World => w' = V) W.drew := hV.symm
  clear hkc hs hbW hsp hsV hbV hq hr hbaseV hhk hW hV hn hsz hlv hbase hll
  obtain ⟨hW1, hW2, hW3⟩ := hWl
  show Calls Tryz.prog 98 #[.pointer (some ⟨Sb, 0, none⟩), .agg #[.int .i64 q.k, .int .i64 q.n, .int .i64 q.m, .string q.s, .string q.sp, pv q.p0, pv q.p1, pv q.p2], .slice la ls.length lc] w _
  go_enter Tryz.func98, Tryz.ntmps98
  go_wp2_with fail
  rw [← HW.out]
  refine anyE_region (L := 10) (S := fun w' : World => w' = V) (by kernel_rfl) ?_
  refine anyE_take 0 (v := ?v1) rfl (by kernel_rfl) (by kernel_rfl) (by kernel_rfl) (by kernel_rfl) (fun _ _ _ h => h) (by rfl) ?hy1 hS0 ?rest1
  case hy1 =>
    intro wx hx
    subst hx
    go_simp
    try rfl
  case rest1 =>
  intro K hK
  go_simp
  refine hK.out _ ?_
  clear hK K
  refine anyE_take 1 (v := ?v2) rfl (by kernel_rfl) (by kernel_rfl) (by kernel_rfl) (by kernel_rfl) (fun _ _ _ h => h) (by rfl) ?hy2 hS0 ?rest2
  case hy2 =>
    intro wx hx
    subst hx
    go_simp
    try rfl
  case rest2 =>
  intro K hK
  go_simp
  refine hK.out _ ?_
  clear hK K
  refine anyE_take 2 (v := ?v3) rfl (by kernel_rfl) (by kernel_rfl) (by kernel_rfl) (by kernel_rfl) (fun _ _ _ h => h) (by rfl) ?hy3 hS0 ?rest3
  case hy3 =>
    intro wx hx
    subst hx
    go_simp
    try rfl
  case rest3 =>
  intro K hK
  go_simp
  refine hK.out _ ?_
  clear hK K
  refine anyE_take 3 (v := ?v4) rfl (by kernel_rfl) (by kernel_rfl) (by kernel_rfl) (by kernel_rfl) (fun _ _ _ h => h) (by rfl) ?hy4 hS0 ?rest4
  case hy4 =>
    intro wx hx
    subst hx
    go_simp
    try rfl
  case rest4 =>
  intro K hK
  go_simp
  refine hK.out _ ?_
  clear hK K
  refine anyE_take 4 (v := ?v5) rfl (by kernel_rfl) (by kernel_rfl) (by kernel_rfl) (by kernel_rfl) (fun _ _ _ h => h) (by rfl) ?hy5 hS0 ?rest5
  case hy5 =>
    intro wx hx
    subst hx
    go_simp
    try rfl
  case rest5 =>
  intro K hK
  go_simp
  refine hK.out _ ?_
  clear hK K
  refine anyE_take 5 (v := ?v6) rfl (by kernel_rfl) (by kernel_rfl) (by kernel_rfl) (by kernel_rfl) (fun _ _ _ h => h) (by rfl) ?hy6 hS0 ?rest6
  case hy6 =>
    intro wx hx
    subst hx
    go_simp
    try rfl
  case rest6 =>
  intro K hK
  go_simp
  refine hK.out _ ?_
  clear hK K
  refine anyE_take 6 (v := ?v7) rfl (by kernel_rfl) (by kernel_rfl) (by kernel_rfl) (by kernel_rfl) (fun _ _ _ h => h) (by rfl) ?hy7 hS0 ?rest7
  case hy7 =>
    intro wx hx
    subst hx
    go_simp
    try rfl
  case rest7 =>
  intro K hK
  go_simp
  refine hK.out _ ?_
  clear hK K
  refine anyE_take 7 (v := ?v8) rfl (by kernel_rfl) (by kernel_rfl) (by kernel_rfl) (by kernel_rfl) (fun _ _ _ h => h) (by rfl) ?hy8 hS0 ?rest8
  case hy8 =>
    intro wx hx
    subst hx
    go_simp
    try rfl
  case rest8 =>
  intro K hK
  go_simp
  refine hK.out _ ?_
  clear hK K
  refine anyE_take 8 (v := ?v9) rfl (by kernel_rfl) (by kernel_rfl) (by kernel_rfl) (by kernel_rfl) (fun _ _ _ h => h) (by rfl) ?hy9 hS0 ?rest9
  case hy9 =>
    intro wx hx
    subst hx
    go_simp
    try rfl
  case rest9 =>
  intro K hK
  go_simp
  refine hK.out _ ?_
  clear hK K
  refine anyE_take 9 (v := ?v10) rfl (by kernel_rfl) (by kernel_rfl) (by kernel_rfl) (by kernel_rfl) (fun _ _ _ h => h) (by rfl) ?hy10 hS0 ?rest10
  case hy10 =>
    intro wx hx
    subst hx
    go_simp
    try rfl
  case rest10 =>
  intro K hK
  go_simp
  refine hK.out _ ?_
  clear hK K
  refine anyE_one 10 (by kernel_rfl) rfl (fun K hK => ?_)
  go_simp
  refine hK.out _ _ (fun h => absurd rfl h) ?_
  clear hK K
  refine anyE_done (by kernel_rfl) ?_ _
  clear hS0 hlk
  have hf : findQ q L 0 = none := hf
  have hr := HR.out
  rw [hf] at hr
  simp only [lookV, Value.tuple.injEq] at hr
  have e1 : rv = .pointer none := by simp at hr; exact hr.1.symm
  have e2 : rb = false := by simp at hr; exact hr.2
  subst e1 e2
  clear hf hr HR
  have hVl : V.heap.size < (V.alloc (.cells #[.int .i64 q.k, .int .i64 q.n, .int .i64 q.m, .string q.s, .string q.sp, pv q.p0, pv q.p1, pv q.p2, .slice la ls.length lc, .int .i64 0, .int .i64 0, .bool false, .bool false] 131)).heap.size := by simp
  obtain ⟨V1, hV1⟩ : ∃ V1, V1 = V.alloc (.cells #[.int .i64 q.k, .int .i64 q.n, .int .i64 q.m, .string q.s, .string q.sp, pv q.p0, pv q.p1, pv q.p2, .slice la ls.length lc, .int .i64 0, .int .i64 0, .bool false, .bool false] 131) := ⟨_, rfl⟩
  have hb1 : Below V.heap.size V V1 := by rw [hV1]; exact bel_alloc (Below.refl _ _) _
  have hn1 : NbAt V1 V.heap.size (tmL q (.slice la ls.length lc) ⟨0, 0, false⟩ false) := by rw [hV1]; exact nb_new V q _
  have hs1 := HS.out.keep hb1 HB.out
  have hpm : ∀ j, j < (kidZ (upd Z gb ⟨20001, 0, false⟩) q).length → ∃ p, q.kid j = some p ∧ p < V.heap.size ∧ KzAt V1 p (upd Z gb ⟨20001, 0, false⟩ p) (upd H gb false p) := fun j hj => by
    rcases HQ.out.kid j (by rw [kidZ_len] at hj; have := HQ.out.k0; omega) with ⟨y, hy, e⟩ | e
    · refine ⟨y.2.1, e, (HS.out.lt y hy).1, ?_⟩
      rw [upd_ne _ _ _ (HS.out.gne y hy), upd_ne _ _ _ (HS.out.gne y hy)]
      exact (hs1.ents y hy).kz
    · refine ⟨gb, e, HS.out.great.lt, ?_⟩
      rw [upd_at, upd_at]
      have g := hs1.great
      exact ⟨by rw [g.cell 9 (by omega)]; rfl, by rw [g.cell 10 (by omega)]; rfl, by rw [g.cell 11 (by omega)]; rfl, by rw [g.cell 12 (by omega)]; rfl⟩
  have HM := hide (measure_any V.heap.size q (.slice la ls.length lc) ls (kidZ (upd Z gb ⟨20001, 0, false⟩) q) (fun j => upd H gb false ((q.kid j).getD 0)) (fun j => (q.kid j).getD 0) V1 hn1 (fun w' hg => HLV.out w' ((hb1.mono HB.out).grown hg (Nat.le_trans HB.out hb1.size) (fun k hk => by have := Option.some.inj hk; have := HB.out; omega))) hl HLL.out
    (by rw [kidZ_len]; have := HQ.out.k0; omega) (by rw [kidZ_len]; have := tkids_le q.k; omega) (fun j hj => by obtain ⟨p, e, _⟩ := hpm j hj; rw [e]; rfl) (fun j hj => by obtain ⟨p, e, h, _⟩ := hpm j hj; rw [e]; show p ≠ _; omega)
    (fun j hj => by rw [kidZ_get]; obtain ⟨p, e, _, h⟩ := hpm j hj; simp only [e]; exact h) (fun z hz => by
      obtain ⟨j, hj, rfl⟩ := List.mem_map.1 hz
      rcases HQ.out.kid j (by have := HQ.out.k0; have := List.mem_range.1 hj; omega) with ⟨y, hy, e⟩ | e
      · rw [e]
        show ZOk (upd Z gb ⟨20001, 0, false⟩ y.2.1) ∧ (upd Z gb ⟨20001, 0, false⟩ y.2.1).sz ≤ 20001
        rw [upd_ne _ _ _ (HS.out.gne y hy)]
        have := (HS.out.ents y hy).ok
        exact ⟨this.1, by omega⟩
      · rw [e]
        show ZOk (upd Z gb ⟨20001, 0, false⟩ gb) ∧ (upd Z gb ⟨20001, 0, false⟩ gb).sz ≤ 20001
        rw [upd_at]
        exact ⟨⟨by decide, by decide, by decide⟩, by decide⟩) HN.out)
  have HB1 := hide hb1
  clear hn1 hs1 hpm hb1
  go_upto_region 5 with fail
  rw [← hV1] at hVl ⊢
  clear hV1 g0 g1 g2 g3 g4 g5 g6 g7 s0
  go_wp2_with fail
  refine HM.out.mono ?_
  rintro e w2 ⟨rfl, hn2, hg2⟩
  have hgV : V.grownBy w2 none := grown_new (grown_of HB1.out) hg2 (Nat.le_refl _)
  have hb2 : Below V.heap.size V w2 := (Below.refl _ _).grown hgV (Nat.le_refl _) (fun k hk => by cases hk)
  have c9 : w2.cell? ⟨V.heap.size, 9, none⟩ = some (.int .i64 (zmk q.k q.n (kidZ (upd Z gb ⟨20001, 0, false⟩) q)).sz) := by rw [hn2.cell 9 (by omega)]; rfl
  have hgt := HSZ.out
  have hl2 := hn2.lt
  generalize (zmk q.k q.n (kidZ (upd Z gb ⟨20001, 0, false⟩) q)).sz = zz at *
  have s1 := (HS.out.keep hb2 HB.out).cell.2
  have HS2 := hide (HS.out.keep hb2 HB.out)
  have HB2 := hide (bel_trans HBV.out hb2)
  have hs2l := lt_cell s1
  clear hn2 hg2 hgV hb2 HM
  go_wp2_with fail
  go_ret
  exact ⟨rfl, HS2.out, HB2.out⟩
end Go.Proofs.YtjkkojefpecbfaaGreat

/- What stays of a world but for some blocks. No program is walked here. -/
namespace Go.Proofs.YtjkkojefpecbfaaGreat
open Go.ChangeShapes Go.WideShapes Go.ChangeAt Go.RowKit

/-- Of what was there only the blocks of C may have changed. -/
structure KeptX (C : Nat → Prop) (w w' : World) : Prop where
  os : w'.os = w.os
  tape : w'.tape = w.tape
  output : w'.output = w.output
  size : w.heap.size ≤ w'.heap.size
  block : ∀ k, k < w.heap.size → ¬ C k → w'.heap[k]? = w.heap[k]?
theorem KeptX.refl (C : Nat → Prop) (w : World) : KeptX C w w := ⟨rfl, rfl, rfl, Nat.le_refl _, fun _ _ _ => rfl⟩
theorem KeptX.trans {C : Nat → Prop} {a b c : World} (h : KeptX C a b) (k : KeptX C b c) : KeptX C a c :=
  ⟨k.os.trans h.os, k.tape.trans h.tape, k.output.trans h.output, Nat.le_trans h.size k.size, fun i hi hc => (k.block i (Nat.lt_of_lt_of_le hi h.size) hc).trans (h.block i hi hc)⟩
theorem KeptX.of {C : Nat → Prop} {w w' : World} (h : Below w.heap.size w w') : KeptX C w w' := ⟨h.os, h.tape, h.output, h.size, fun k hk _ => h.block k hk⟩
theorem KeptX.grown {C : Nat → Prop} {w w' : World} {r : Option Nat} (h : w.grownBy w' r) (hr : ∀ b, r = some b → C b) : KeptX C w w' :=
  ⟨h.os, h.tape, h.output, h.size, fun k hk hc => h.block k hk (fun e => hc (hr k e.symm))⟩
theorem KeptX.mono {C D : Nat → Prop} {w w' : World} (h : KeptX C w w') (hc : ∀ k, k < w.heap.size → C k → D k) : KeptX D w w' := ⟨h.os, h.tape, h.output, h.size, fun k hk hd => h.block k hk (fun hk2 => hd (hc k hk hk2))⟩
end Go.Proofs.YtjkkojefpecbfaaGreat

/- The program's fold over nodes, kid by kid; which nodes of the store stand for which trees. No program is walked here. -/
namespace Go.Proofs.YtjkkojefpecbfaaGreat
open Go.ChangeShapes Go.WideShapes Go.ChangeAt Go.RowKit

/-- Kids that were made anew, put together. -/
def joinN (h : Hd) : List (Option Tt) → Option Tt
  | [] => sizedT (.t0 h)
  | [a] => join1 h a
  | [a, b] => join2 h a b
  | a :: b :: c :: _ => join3 h a b c
/-- The first kids made anew. -/
def chgJ {S : Type} (know : Tt → Int → S → Option (Option Tt) × S) (T : Tt) (u : Int) (s : S) : Nat → List (Option Tt) × S
  | 0 => ([], s)
  | j + 1 => match T.kids[j]? with
    | some a => ((chgJ know T u s j).1 ++ [(chgS know a (u + bindN T.hd.k j) (chgJ know T u s j).2).1], (chgS know a (u + bindN T.hd.k j) (chgJ know T u s j).2).2)
    | none => chgJ know T u s j
theorem chgJ_len {S : Type} (know : Tt → Int → S → Option (Option Tt) × S) (T : Tt) (u : Int) (s : S) : ∀ j, j ≤ T.kids.length → (chgJ know T u s j).1.length = j
  | 0, _ => rfl
  | j + 1, h => by
    have e : T.kids[j]? = some (T.kids[j]'(by omega)) := List.getElem?_eq_getElem (by omega)
    simp only [chgJ, e, List.length_append, List.length_cons, List.length_nil]
    rw [chgJ_len know T u s j (by omega)]
theorem chg_known {S : Type} (know : Tt → Int → S → Option (Option Tt) × S) (T : Tt) (u : Int) (s : S) {r : Option Tt} {s1 : S} (h : know T u s = (some r, s1)) : chgS know T u s = (r, s1) := by
  cases T <;> (unfold chgS; rw [h])
theorem chg_new {S : Type} (know : Tt → Int → S → Option (Option Tt) × S) (T : Tt) (u : Int) (s : S) {s1 : S} (h : know T u s = (none, s1)) : chgS know T u s = (joinN T.hd (chgJ know T u s1 T.kids.length).1, (chgJ know T u s1 T.kids.length).2) := by
  cases T with
  | t0 hd => unfold chgS; rw [h]; rfl
  | t1 hd a => conv => lhs; unfold chgS
               rw [h]; rfl
  | t2 hd a b => conv => lhs; unfold chgS
                 rw [h]; rfl
  | t3 hd a b c => conv => lhs; unfold chgS
                   rw [h]; rfl
theorem kids_le (T : Tt) : T.kids.length ≤ 3 := by cases T <;> simp [Tt.kids]
theorem kid_cnt (T : Tt) (j : Nat) (h : j < T.kids.length) : T.kids[j].cnt < T.cnt := by
  cases T with
  | t0 hd => simp [Tt.kids] at h
  | t1 hd a =>
    have e : j = 0 := by simp [Tt.kids] at h; omega
    subst e; simp [Tt.kids, Tt.cnt]
  | t2 hd a b =>
    rcases (show j = 0 ∨ j = 1 by simp [Tt.kids] at h; omega) with rfl | rfl <;> simp [Tt.kids, Tt.cnt] <;> omega
  | t3 hd a b c =>
    rcases (show j = 0 ∨ j = 1 ∨ j = 2 by simp [Tt.kids] at h; omega) with rfl | rfl | rfl <;> simp [Tt.kids, Tt.cnt] <;> omega
theorem kid_all' {P : Hd → Nat → Prop} (T : Tt) (hp : T.all P) (j : Nat) (h : j < T.kids.length) : T.kids[j].all P := by
  cases T with
  | t0 hd => simp [Tt.kids] at h
  | t1 hd a =>
    have e : j = 0 := by simp [Tt.kids] at h; omega
    subst e; exact hp.2
  | t2 hd a b =>
    rcases (show j = 0 ∨ j = 1 by simp [Tt.kids] at h; omega) with rfl | rfl
    · exact hp.2.1
    · exact hp.2.2
  | t3 hd a b c =>
    rcases (show j = 0 ∨ j = 1 ∨ j = 2 by simp [Tt.kids] at h; omega) with rfl | rfl | rfl
    · exact hp.2.1
    · exact hp.2.2.1
    · exact hp.2.2.2
theorem hd_all {P : Hd → Nat → Prop} (T : Tt) (hp : T.all P) : P T.hd T.kids.length := by
  cases T with
  | t0 hd => exact hp
  | t1 hd a => exact hp.1
  | t2 hd a b => exact hp.1
  | t3 hd a b c => exact hp.1
theorem mk_kids (T : Tt) : Tt.mk T.hd T.kids = T := by cases T <;> rfl
/-- A node's key, its kids as a list. -/
def keyP (h : Hd) (ps : List Nat) : Nk := keyH h ps[0]? ps[1]? ps[2]?
theorem keyP_kid (h : Hd) (ps : List Nat) (h3 : ps.length ≤ 3) (j : Nat) : (keyP h ps).kid j = ps[j]? := by
  rcases (show j = 0 ∨ j = 1 ∨ j = 2 ∨ 3 ≤ j by omega) with rfl | rfl | rfl | h
  · rfl
  · rfl
  · rfl
  · rw [List.getElem?_eq_none (by omega)]
    obtain ⟨n, rfl⟩ : ∃ n, j = n + 3 := ⟨j - 3, by omega⟩
    rfl
theorem ist_open {L : List (Nk × Nat × Nat)} {T : Tt} {b : Nat} (h : IsT L T b) : ∃ (ps : List Nat) (c : Nat), ps.length = T.kids.length ∧ (keyP T.hd ps, b, c) ∈ L ∧ ∀ j (h1 : j < ps.length) (h2 : j < T.kids.length), IsT L T.kids[j] ps[j] := by
  cases T with
  | t0 hd => obtain ⟨c, h⟩ := h; exact ⟨[], c, rfl, h, fun j h1 => by simp at h1⟩
  | t1 hd x =>
    obtain ⟨p, c, h1, h⟩ := h
    refine ⟨[p], c, rfl, h, fun j h2 h3 => ?_⟩
    have e : j = 0 := by simp at h2; omega
    subst e; exact h1
  | t2 hd x y =>
    obtain ⟨p, q, c, h1, h2, h⟩ := h
    refine ⟨[p, q], c, rfl, h, fun j h3 h4 => ?_⟩
    rcases (show j = 0 ∨ j = 1 by simp at h3; omega) with rfl | rfl
    · exact h1
    · exact h2
  | t3 hd x y z =>
    obtain ⟨p, q, r, c, h1, h2, h3, h⟩ := h
    refine ⟨[p, q, r], c, rfl, h, fun j h4 h5 => ?_⟩
    rcases (show j = 0 ∨ j = 1 ∨ j = 2 by simp at h4; omega) with rfl | rfl | rfl
    · exact h1
    · exact h2
    · exact h3
theorem ist_mk {L : List (Nk × Nat × Nat)} {h : Hd} {ts : List Tt} {ps : List Nat} {b c : Nat} (h3 : ts.length ≤ 3) (hl : ps.length = ts.length) (hm : (keyP h ps, b, c) ∈ L) (hk : ∀ j (h1 : j < ps.length) (h2 : j < ts.length), IsT L ts[j] ps[j]) : IsT L (Tt.mk h ts) b := by
  match ts, ps, hl, h3 with
  | [], [], _, _ => exact ⟨c, hm⟩
  | [a], [p], _, _ => exact ⟨p, c, hk 0 (by simp) (by simp), hm⟩
  | [a, a'], [p, p'], _, _ => exact ⟨p, p', c, hk 0 (by simp) (by simp), hk 1 (by simp) (by simp), hm⟩
  | [a, a', a''], [p, p', p''], _, _ => exact ⟨p, p', p'', c, hk 0 (by simp) (by simp), hk 1 (by simp) (by simp), hk 2 (by simp) (by simp), hm⟩
theorem ent_arity {base : Nat} {w : World} {L : List (Nk × Nat × Nat)} {Z : Nat → Zs} {H : Nat → Bool} {h : Hd} {ps : List Nat} {b : Nat} (he : EntOk base w L Z H (keyP h ps) b) (h3 : ps.length ≤ 3) : tkidsN h.k = ps.length := by
  have h0 : 0 ≤ tkidsN h.k := he.k0
  have hk3 : tkidsN h.k ≤ 3 := tkids_le h.k
  by_cases e : tkidsN h.k < ps.length
  · have := he.nok (tkidsN h.k).toNat (by show tkidsN h.k ≤ _; omega)
    rw [keyP_kid h ps h3, List.getElem?_eq_getElem (by omega)] at this
    cases this
  · by_cases e2 : (ps.length : Int) < tkidsN h.k
    · obtain ⟨y, _, hy⟩ := he.kid ps.length e2
      rw [keyP_kid h ps h3, List.getElem?_eq_none (by omega)] at hy
      cases hy
    · omega
theorem z_mk (T : Tt) : T.z = zmk T.hd.k T.hd.n (T.kids.map Tt.z) := by cases T <;> rfl
/-- What the store keeps of a node is what its tree's root keeps. -/
theorem ist_z {base : Nat} {w : World} {Sb mb gb clock : Nat} {L : List (Nk × Nat × Nat)} {Z : Nat → Zs} {H : Nat → Bool} (hs : St base w Sb mb gb clock L Z H) : ∀ (n : Nat) (T : Tt) (b : Nat), T.cnt ≤ n → IsT L T b → Z b = T.z
  | 0, T, _, h, _ => by have := T.cnt_pos; omega
  | n + 1, T, b, hn, h => by
    obtain ⟨ps, c, hl, hm, hk⟩ := ist_open h
    have he := hs.ents _ hm
    have h3 : ps.length ≤ 3 := by have := kids_le T; omega
    have ha := ent_arity he h3
    have e : (tkidsN T.hd.k).toNat = ps.length := by omega
    rw [he.z, z_mk T]
    show zmk T.hd.k T.hd.n ((List.range (tkidsN T.hd.k).toNat).map (fun j => Z (((keyP T.hd ps).kid j).getD 0))) = _
    rw [e]
    congr 1
    apply List.ext_getElem
    · simp [hl]
    · intro j h1 h2
      have hj : j < ps.length := by simpa using h1
      have hj2 : j < T.kids.length := by omega
      simp only [List.getElem_map, List.getElem_range]
      rw [keyP_kid _ _ h3, List.getElem?_eq_getElem hj]
      exact ist_z hs n _ _ (by have := kid_cnt T j hj2; omega) (hk j hj hj2)
theorem ist_lt {base : Nat} {w : World} {Sb mb gb clock : Nat} {L : List (Nk × Nat × Nat)} {Z : Nat → Zs} {H : Nat → Bool} (hs : St base w Sb mb gb clock L Z H) {T : Tt} {b : Nat} (h : IsT L T b) : T.cnt ≤ 20000 ∧ b ≠ gb ∧ b ≠ mb ∧ b < w.heap.size := by
  have hz := ist_z hs T.cnt T b (Nat.le_refl _) h
  obtain ⟨ps, c, hl, hm, hk⟩ := ist_open h
  have he := (hs.ents _ hm).ok.2
  have he : (Z b).sz ≤ 20000 := he
  rw [hz, T.z_sz] at he
  exact ⟨by omega, hs.gne _ hm, (hs.lt _ hm).2, (hs.lt _ hm).1⟩
/-- A node that is answered: that of a tree, or the one that is too great. -/
def Res (gb : Nat) (L : List (Nk × Nat × Nat)) : Option Tt → Nat → Prop
  | some T, b => IsT L T b
  | none, b => b = gb
theorem Res.more {gb : Nat} {L L' : List (Nk × Nat × Nat)} (hL : ∀ x ∈ L, x ∈ L') {r : Option Tt} {b : Nat} (h : Res gb L r b) : Res gb L' r b := by
  cases r with
  | none => exact h
  | some T => exact IsT.more hL h
end Go.Proofs.YtjkkojefpecbfaaGreat
