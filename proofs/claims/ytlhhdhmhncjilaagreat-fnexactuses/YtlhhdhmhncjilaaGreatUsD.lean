/- What fold answers with the functions that Uses hands to it. -/
import Derived.Test.YtlhhdhmhncjilaaGreatUsC
namespace Go.Proofs.YtlhhdhmhncjilaaGreat
open Go.ChangeShapes Go.WideShapes Go.ChangeAt Go.RowKit

/-- The first answers of the kids. -/
def kv3 (f : Nat → Int) (j q : Nat) : Int := if q < j then f q else 0
def k3 (f : Nat → Int) (j : Nat) : List Value := [.int .i64 (kv3 f j 0), .int .i64 (kv3 f j 1), .int .i64 (kv3 f j 2)]
theorem k3_set (f : Nat → Int) (j : Nat) (hj : j < 3) : (k3 f j).set j (.int .i64 (f j)) = k3 f (j + 1) := by
  rcases (show j = 0 ∨ j = 1 ∨ j = 2 by omega) with rfl | rfl | rfl <;> simp [k3, kv3]
theorem k3_sum (f : Nat → Int) (j : Nat) (hj : j ≤ 3) : kv3 f j 0 + kv3 f j 1 + kv3 f j 2 = upTo f j := by
  rcases (show j = 0 ∨ j = 1 ∨ j = 2 ∨ j = 3 by omega) with rfl | rfl | rfl | rfl <;> simp [kv3, upTo]
/-- The block of the kids' answers. -/
def K3At (w : World) (b : Nat) (xs : List Value) : Prop := w.ownsRow 0 58 3 (.slice (some ⟨b, 0, none⟩) 1 1) 1 xs
theorem K3At.cell {w : World} {b : Nat} {xs : List Value} (h : K3At w b xs) (o : Nat) (ho : o < 3) : w.cell? ⟨b, o, none⟩ = xs[o]? := World.ownsRow.cellAt h o (by omega)
theorem K3At.set {w : World} {b : Nat} {xs : List Value} (h : K3At w b xs) (o : Nat) (u : Value) : K3At (w.setCell ⟨b, o, none⟩ u) b (xs.set o u) := (World.ownsRow.stored h o u).1
theorem K3At.frozen {w : World} {b : Nat} {xs : List Value} (h : K3At w b xs) (o : Nat) : w.frozen? ⟨b, o, none⟩ = false := World.ownsRow.frozenAt h o
theorem K3At.lt {w : World} {b : Nat} {xs : List Value} (h : K3At w b xs) : b < w.heap.size := (World.ownsRow.lt h b rfl).2

/-- What is said of fold at a node. -/
def FoldIH (ts : List Td) (pt : Nat → Nat) (base Sb mb gb clock : Nat) (L : List (Nk × Nat × Nat)) (Z : Nat → Zs) (H : Nat → Bool) (vb : Nat) (v : Int) (n : Nat) : Prop := ∀ (i : Nat) (w : World) (u : Int), i < n → i < ts.length → St base w Sb mb gb clock L Z H → base ≤ w.heap.size → w.cell? ⟨vb, 0, none⟩ = some (.int .i64 v) → 0 ≤ u → u + i ≤ 50000 →
  Calls Tryz.prog 20 #[.pointer (some ⟨pt i, 0, none⟩), .int .i64 u, .func (.func 21) #[] #[.pointer (some ⟨vb, 0, none⟩)], .func (.func 22) #[] #[]] w fun e w' => e = .returned (.int .i64 (usesN ts n i (v + u))) ∧ Below w.heap.size w w'

set_option maxRecDepth 20000 in
set_option maxHeartbeats 4000000 in
theorem fold_step {ts : List Td} {pt : Nat → Nat} {base Sb mb gb clock : Nat} {L : List (Nk × Nat × Nat)} {Z : Nat → Zs} {H : Nat → Bool} {vb : Nat} {v : Int} (ht : termB ts = true) (hr : Rd ts pt L Z ts.length) (n : Nat) (IH : Hid (FoldIH ts pt base Sb mb gb clock L Z H vb v n)) : FoldIH ts pt base Sb mb gb clock L Z H vb v (n + 1) := by
  intro i w u hin hi hs hbase av hu0 hu1
  have T := tiled_all ht i hi
  obtain ⟨⟨c, hc⟩, hz⟩ := hr i hi hi
  obtain ⟨lv, ls, nb, _⟩ := (hs.ents _ hc).node
  have nb : NbAt w (pt i) (tmL (keyOf pt ts[i]) lv (Z (pt i)) (H (pt i))) := nb
  rw [hz] at nb
  have hlo := lo_le ht i hi
  have HVR := hide (lo_var ht i hi)
  have HNM := hide (num_le ht i hi)
  have hU := usesN_succ ts n i (v + u) hi
  have hkl3 : ts[i].kids.length ≤ 3 := by have := tkids_le ts[i].k; have := T.arity; omega
  have HKD := hide (fun (j : Nat) (hj : j < ts[i].kids.length) => show (keyOf pt ts[i]).kid j = some (pt (ts[i].kids[j]).toNat) by rw [keyOf_kid pt ts[i] hkl3 j, List.getElem?_eq_getElem hj]; rfl)
  have HKI := hide T.kin
  have HAR := hide T.arity
  have HUB := hide (fun (j : Nat) (hj : j < ts[i].kids.length) (x : Int) => uses_bound ht n (ts[i].kids[j]).toNat x (by have := T.kin _ (List.getElem_mem hj); omega))
  have HSZ := hide (fun (j : Nat) (hj : j < ts[i].kids.length) => show szI ts (((ts[i].kids[j]).toNat : Nat) : Int) ≤ 20000 by
    have h1 := T.kin _ (List.getElem_mem hj)
    have h2 := sz_le ht (ts[i].kids[j]).toNat (by omega)
    have h3 := len_of ht
    omega)
  have HST := hide hs
  have HBS := hide hbase
  have HAV := hide av
  clear T hc hz hs hbase
  generalize ts[i] = x at *
  generalize zI (Zt ts) (i : Int) = z at *
  have HNB := hide nb
  have HPT : Hid (pt i = pt i) := rfl
  obtain ⟨A, hA⟩ : ∃ A, A = pt i := ⟨_, rfl⟩
  rw [← hA] at nb HNB ⊢
  clear hA HPT
  have hAl := nb.lt
  have a0 : w.cell? ⟨A, 0, none⟩ = some (.int .i64 x.k) := by rw [nb.cell 0 (by omega)]; rfl
  have a1 : w.cell? ⟨A, 1, none⟩ = some (.int .i64 x.n) := by rw [nb.cell 1 (by omega)]; rfl
  have a10 : w.cell? ⟨A, 10, none⟩ = some (.int .i64 z.lo) := by rw [nb.cell 10 (by omega)]; rfl
  have HKN := hide (known_any A vb x.k x.n z.lo u v w a0 a1 a10 av ⟨hu0, by omega⟩ HNM.out hlo)
  by_cases hk : knowB x.k x.n z.lo u v = true
  · have HE : Hid (usesN ts (n + 1) i (v + u) = knowN x.k x.n u v) := by
      show _ = _
      rw [hU]
      unfold knowB at hk
      unfold knowN
      by_cases h1 : x.k = 1 ∧ x.n - u = v
      · have := HVR.out h1.1
        rw [if_pos h1, if_neg (by omega), if_pos ⟨h1.1, by omega⟩]
      · rw [if_neg h1] at hk ⊢
        rw [if_pos (by have := of_decide_eq_true hk; omega)]
    rw [hk] at HKN
    generalize knowN x.k x.n u v = ans at *
    clear hk hU
    go_enter Tryz.func20, Tryz.ntmps20
    go_wp2_with fail
    refine HKN.out.mono ?_
    rintro e w1 ⟨rfl, hb1⟩
    have HB1 := hide hb1
    clear hb1
    go_wp2_with fail
    go_ret
    exact ⟨by rw [HE.out] <;> rfl, HB1.out⟩
  · have hk : knowB x.k x.n z.lo u v = false := by simpa using hk
    have HE : Hid (usesN ts (n + 1) i (v + u) = usesK (usesN ts n) x (v + u) x.kids.length) := by
      show _ = _
      rw [hU]
      unfold knowB at hk
      by_cases h1 : x.k = 1 ∧ x.n - u = v
      · rw [if_pos h1] at hk; cases hk
      · rw [if_neg h1] at hk
        rw [if_neg (by have := of_decide_eq_false hk; omega), if_neg (fun h => h1 ⟨h.1, by omega⟩)]
    rw [hk] at HKN
    generalize knowN x.k x.n u v = ans at *
    clear hk hU
    obtain ⟨f, hf⟩ : ∃ f : Nat → Int, f = fun q => usesN ts n (x.kids.getD q 0).toNat (v + u + bindN x.k q) := ⟨_, rfl⟩
    have HFS : Hid (∀ j (hj : j < x.kids.length), f j = usesN ts n (x.kids[j]).toNat (v + u + bindN x.k j)) := fun j hj => by rw [hf]; simp [List.getD, hj]
    have HE : Hid (usesN ts (n + 1) i (v + u) = upTo f x.kids.length) := by show _ = _; rw [HE.out, hf]; rfl
    have HFB : Hid (∀ j, j < x.kids.length → 0 ≤ f j ∧ f j ≤ 20000) := fun j hj => by
      rw [HFS.out j hj]
      have h1 := HUB.out j hj (v + u + bindN x.k j)
      have h2 := HSZ.out j hj
      omega
    clear hf HUB HSZ
    have hk0 : 0 ≤ tkidsN x.k := by have := HAR.out; omega
    have hk3' : tkidsN x.k ≤ 3 := tkids_le x.k
    have hkn : (tkidsN x.k).toNat = x.kids.length := by have := HAR.out; omega
    have HPT := hide (fun (W : World) (h : W.cell? ⟨A, 0, none⟩ = some (.int .i64 x.k)) => parts_any A x.k W h hk0 hk3')
    have HBI := hide (fun (W : World) (j : Nat) (h : W.cell? ⟨A, 0, none⟩ = some (.int .i64 x.k)) => binds_any A x.k j W h hk0 hk3')
    rw [hkn] at HPT
    have HBD := hide (fun q : Nat => show 0 ≤ bindN x.k q ∧ bindN x.k q ≤ 1 by unfold bindN; split <;> omega)
    clear hk0 hk3' hkn
    go_enter Tryz.func20, Tryz.ntmps20
    go_wp2_with fail
    refine HKN.out.mono ?_
    rintro e w1 ⟨rfl, hb1⟩
    obtain ⟨W2, hW2⟩ : ∃ W2, W2 = w1.alloc (.cells #[.int .i64 0, .int .i64 0, .int .i64 0] 58) := ⟨_, rfl⟩
    have hb2 : Below w.heap.size w W2 := by rw [hW2]; exact bel_trans hb1 (bel_alloc (Below.refl _ _) _)
    have HK2 : Hid (K3At W2 w1.heap.size (k3 f 0)) := by
      show K3At _ _ _
      rw [hW2]
      exact ⟨rfl, .inr ⟨w1.heap.size, 1, _, rfl, Nat.zero_le _, heap_alloc_new w1 _, Nat.le_refl _, by decide, rfl, rfl⟩⟩
    have HKG := hide hb1.size
    have c0 := keep_cell hb2 a0
    have HP := hide (HPT.out W2 c0)
    have HB2 := hide hb2
    clear hb1 hb2 HKN HPT
    have hA2 := lt_cell c0
    go_upto_region 5 with fail
    rw [← hW2]
    clear hW2
    generalize w1.heap.size = kb at *
    clear w1
    go_wp2_with fail
    refine HP.out.mono ?_
    rintro e w3 ⟨rfl, hb3⟩
    have HB3 := hide (bel_trans HB2.out hb3)
    have HK3 : Hid (K3At w3 kb (k3 f 0)) := row_keep hb3 HK2.out
    clear hb3 HP HK2 HB2 c0 hA2
    go_wp2_with fail
    go_loopw [26] (fun ii wr => ∃ (j : Nat), j ≤ x.kids.length ∧ ii = .int .i64 j ∧ Hid (K3At wr kb (k3 f j)) ∧ Hid (Below w.heap.size w wr)) (fun ii _ => x.kids.length - (intOf ii).toNat)
    case atStart => exact ⟨0, by omega, rfl, HK3, HB3⟩
    case round =>
      clear HK3 HB3
      obtain ⟨j, hj, rfl, HKJ, HBJ⟩ := hrel
      have hkl := HKJ.out.lt
      by_cases hlt : j < x.kids.length
      · have hlt' : (j : Int) < x.kids.length := by omega
        have HQ1 := hide (show j + 1 ≤ x.kids.length from hlt)
        have d0 := keep_cell HBJ.out a0
        have d5 := keep_cell HBJ.out (nb_kid HNB.out j (by omega))
        rw [HKD.out j hlt] at d5
        simp only [pv] at d5
        have hAr := lt_cell d5
        have r1 := HKI.out x.kids[j] (List.getElem_mem hlt)
        obtain ⟨bn0, bn1⟩ := HBD.out j
        have HCB := hide (HBI.out wr j d0)
        have HCF : Hid (∀ W, Below w.heap.size w W → Calls Tryz.prog 20 #[.pointer (some ⟨pt (x.kids[j]).toNat, 0, none⟩), .int .i64 (u + bindN x.k j), .func (.func 21) #[] #[.pointer (some ⟨vb, 0, none⟩)], .func (.func 22) #[] #[]] W fun e w' => e = .returned (.int .i64 (f j)) ∧ Below W.heap.size W w') := fun W hW => by
          have h := IH.out (x.kids[j]).toNat W (u + bindN x.k j) (by omega) (by omega) (HST.out.keep hW HBS.out) (Nat.le_trans HBS.out hW.size) (keep_cell hW HAV.out) (by omega) (by omega)
          rw [HFS.out j hlt, show v + u + bindN x.k j = v + (u + bindN x.k j) by omega]
          exact h
        have HNS := hide (k3_set f j (by omega))
        generalize pt (x.kids[j]).toNat = P1 at *
        generalize bindN x.k j = bn at *
        have hw1 : IntKind.i64.wrap (u + bn) = u + bn := by rw [IntKind.wrap_i64]; omega
        have hj3 : j < 3 := by omega
        clear r1
        go_wp2_with fail
        refine HCB.out.mono ?_
        rintro e w4 ⟨rfl, hb4⟩
        have HB4 := hide (bel_trans HBJ.out hb4)
        have HK4 : Hid (K3At w4 kb (k3 f j)) := row_keep hb4 HKJ.out
        clear hb4 HCB HKJ HBJ d0 d5 hkl hAr
        go_wp2_with fail
        refine (HCF.out w4 HB4.out).mono ?_
        rintro e w5 ⟨rfl, hb5⟩
        have HB5 := hide (bel_trans HB4.out hb5)
        have HK5 : Hid (K3At w5 kb (k3 f j)) := row_keep hb5 HK4.out
        clear hb5 HB4 HK4 HCF
        obtain ⟨ov, d3⟩ : ∃ ov, w5.cell? ⟨kb, j, none⟩ = some ov := by
          rw [HK5.out.cell j hj3]
          exact ⟨_, List.getElem?_eq_getElem (by show j < 3; omega)⟩
        have f3 := HK5.out.frozen j
        have hl5 := lt_cell d3
        have HNK := hide (HK5.out.set j (.int .i64 (f j)))
        rw [HNS.out] at HNK
        have HNB5 := hide (HB5.out.grown (grown_set w5 ⟨kb, j, none⟩ (.int .i64 (f j))) HB5.out.size (fun k hk => by have := Option.some.inj hk; have := HKG.out; simp at *; omega))
        go_wp2_with fail
        go_roundw
        case rel => exact ⟨j + 1, HQ1.out, by go_num, HNK, HNB5⟩
        case measure => have := HQ1.out; simp [intOf]; omega
      · have hlt' : ¬ (j : Int) < x.kids.length := by omega
        have e : j = x.kids.length := by omega
        subst e
        have b0 : wr.cell? ⟨kb, 0, none⟩ = some (.int .i64 (kv3 f x.kids.length 0)) := by rw [HKJ.out.cell 0 (by omega)]; rfl
        have b1 : wr.cell? ⟨kb, 1, none⟩ = some (.int .i64 (kv3 f x.kids.length 1)) := by rw [HKJ.out.cell 1 (by omega)]; rfl
        have b2 : wr.cell? ⟨kb, 2, none⟩ = some (.int .i64 (kv3 f x.kids.length 2)) := by rw [HKJ.out.cell 2 (by omega)]; rfl
        have HS3 := hide (k3_sum f x.kids.length hkl3)
        have hbd : ∀ q, 0 ≤ kv3 f x.kids.length q ∧ kv3 f x.kids.length q ≤ 100000 := fun q => by
          unfold kv3
          split
          · rename_i h; have := HFB.out q h; omega
          · omega
        have HJ := hide (joinU_any A (kv3 f x.kids.length 0) (kv3 f x.kids.length 1) (kv3 f x.kids.length 2) wr (hbd 0) (hbd 1) (hbd 2))
        rw [HS3.out] at HJ
        rw [← HE.out] at HJ
        clear hbd HS3
        generalize kv3 f x.kids.length 0 = r0 at *
        generalize kv3 f x.kids.length 1 = r1 at *
        generalize kv3 f x.kids.length 2 = r2 at *
        go_wp2_with fail
        refine HJ.out.mono ?_
        rintro e w6 ⟨rfl, hb6⟩
        have HB6 := hide (bel_trans HBJ.out hb6)
        clear hb6
        go_wp2_with fail
        go_ret
        exact ⟨rfl, HB6.out⟩
theorem fold_all {ts : List Td} {pt : Nat → Nat} {base Sb mb gb clock : Nat} {L : List (Nk × Nat × Nat)} {Z : Nat → Zs} {H : Nat → Bool} {vb : Nat} {v : Int} (ht : termB ts = true) (hr : Rd ts pt L Z ts.length) : ∀ n, FoldIH ts pt base Sb mb gb clock L Z H vb v n
  | 0 => fun i w u h => by omega
  | n + 1 => fold_step ht hr n (hide (fold_all ht hr n))
end Go.Proofs.YtlhhdhmhncjilaaGreat
