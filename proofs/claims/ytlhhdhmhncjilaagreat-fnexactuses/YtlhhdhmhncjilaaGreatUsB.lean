/- How often a term uses a variable: no program is walked here. -/
import Derived.Test.YtlhhdhmhncjilaaGreatStG
import Derived.Test.YtlhhdhmhncjilaaGreatTFTree
import Derived.Deep.CutRange
import Derived.Deep.Upon
namespace Go.Proofs.YtlhhdhmhncjilaaGreat

def upTo (f : Nat → Int) : Nat → Int
  | 0 => 0
  | j + 1 => upTo f j + f j
/-- How often a variable is used in the first kids of a node. -/
def usesK (g : Nat → Int → Int) (td : Td) (v : Int) (j : Nat) : Int := upTo (fun q => g (td.kids.getD q 0).toNat (v + bindN td.k q)) j
/-- How often the part below a node uses a variable. -/
def usesN (ts : List Td) : Nat → Nat → Int → Int
  | 0, _, _ => 0
  | n + 1, i, v => if (zI (Zt ts) (i : Int)).lo ≤ v then 0 else if (tdI ts (i : Int)).k = 1 ∧ (tdI ts (i : Int)).n = v then 1 else usesK (usesN ts n) (tdI ts (i : Int)) v (tdI ts (i : Int)).kids.length
theorem usesN_succ (ts : List Td) (n i : Nat) (v : Int) (hi : i < ts.length) : usesN ts (n + 1) i v = if (zI (Zt ts) (i : Int)).lo ≤ v then 0 else if ts[i].k = 1 ∧ ts[i].n = v then 1 else usesK (usesN ts n) ts[i] v ts[i].kids.length := by
  rw [usesN, tdI_at hi]
theorem usesK_succ (g : Nat → Int → Int) (td : Td) (v : Int) (j : Nat) (hj : j < td.kids.length) : usesK g td v (j + 1) = usesK g td v j + g (td.kids[j]).toNat (v + bindN td.k j) := by
  simp [usesK, upTo, List.getD, hj]
theorem usesK_bound (g : Nat → Int → Int) (td : Td) (v : Int) (Z : Int → Zs) (h : ∀ q (hq : q < td.kids.length) u, 0 ≤ g (td.kids[q]).toNat u ∧ g (td.kids[q]).toNat u ≤ (Z td.kids[q]).sz) : ∀ j, j ≤ td.kids.length → 0 ≤ usesK g td v j ∧ usesK g td v j ≤ sumZ ((td.kids.map Z).take j)
  | 0, _ => by simp [usesK, upTo, sumZ]
  | j + 1, hj => by
    have ih := usesK_bound g td v Z h j (by omega)
    have hh := h j (by omega) (v + bindN td.k j)
    rw [usesK_succ g td v j (by omega)]
    have hs := sumZ_snoc (td.kids.map Z) j (by simpa using (show j < td.kids.length by omega))
    rw [List.getElem_map] at hs
    rw [hs]
    omega
theorem uses_bound {ts : List Td} (ht : termB ts = true) : ∀ (n i : Nat) (v : Int), i < ts.length → 0 ≤ usesN ts n i v ∧ usesN ts n i v ≤ szI ts (i : Int)
  | 0, i, v, hi => ⟨Int.le_refl _, by have := (tiled_all ht i hi).one; simp only [usesN]; omega⟩
  | n + 1, i, v, hi => by
    have T := tiled_all ht i hi
    have h1 := T.one
    rw [usesN_succ ts n i v hi]
    split
    · omega
    split
    · omega
    have hb := usesK_bound (usesN ts n) ts[i] v (zI (Zt ts)) (fun q hq u => by
      have hk := T.kin _ (List.getElem_mem hq)
      have := uses_bound ht n (ts[i].kids[q]).toNat u (by omega)
      unfold szI at this
      rw [show (((ts[i].kids[q]).toNat : Nat) : Int) = ts[i].kids[q] by omega] at this
      exact this) ts[i].kids.length (Nat.le_refl _)
    have hs : szI ts (i : Int) = 1 + sumZ (ts[i].kids.map (zI (Zt ts))) := by unfold szI; rw [T.eqz]; rfl
    rw [List.take_of_length_le (by simp)] at hb
    omega
theorem usesK_le {ts : List Td} (ht : termB ts = true) (n i : Nat) (v : Int) (hi : i < ts.length) (j : Nat) (hj : j ≤ ts[i].kids.length) : 0 ≤ usesK (usesN ts n) ts[i] v j ∧ usesK (usesN ts n) ts[i] v j ≤ 20000 := by
  have T := tiled_all ht i hi
  have hb := usesK_bound (usesN ts n) ts[i] v (zI (Zt ts)) (fun q hq u => by
    have hk := T.kin _ (List.getElem_mem hq)
    have := uses_bound ht n (ts[i].kids[q]).toNat u (by omega)
    unfold szI at this
    rw [show (((ts[i].kids[q]).toNat : Nat) : Int) = ts[i].kids[q] by omega] at this
    exact this) j hj
  have hs : szI ts (i : Int) = 1 + sumZ (ts[i].kids.map (zI (Zt ts))) := by unfold szI; rw [T.eqz]; rfl
  have hsplit := sumZ_split (ts[i].kids.map (zI (Zt ts))) j
  have hdrop := sumZ_nonneg ((ts[i].kids.map (zI (Zt ts))).drop j) (fun z hz => by
    obtain ⟨c, hc, rfl⟩ := List.mem_map.1 (List.mem_of_mem_drop hz)
    have hk := T.kin c hc
    have := (tiled_all ht c.toNat (by omega)).one
    unfold szI at this
    rw [show ((c.toNat : Nat) : Int) = c by omega] at this
    omega)
  have := sz_le ht i hi
  have := len_of ht
  omega
theorem num_le {ts : List Td} (ht : termB ts = true) (i : Nat) (hi : i < ts.length) : ts[i].k = 1 → 0 ≤ ts[i].n ∧ ts[i].n ≤ 20000 := num_of (fields_all ht i hi)
theorem lo_le {ts : List Td} (ht : termB ts = true) : ∀ i : Nat, i < ts.length → 0 ≤ (zI (Zt ts) (i : Int)).lo ∧ (zI (Zt ts) (i : Int)).lo ≤ 20001 := by
  intro i
  induction i using Nat.strongRecOn with
  | ind i ih =>
    intro hi
    have T := tiled_all ht i hi
    have h : ∀ z ∈ ts[i].kids.map (zI (Zt ts)), ZOk z := fun z hz => by
      obtain ⟨c, hc, rfl⟩ := List.mem_map.1 hz
      have hk := T.kin c hc
      have h1 := (tiled_all ht c.toNat (by omega)).one
      have h2 := ih c.toNat (by omega) (by omega)
      unfold szI at h1
      rw [show ((c.toNat : Nat) : Int) = c by omega] at h1 h2
      exact ⟨h1, h2⟩
    rw [T.eqz]
    exact loP_bounds ts[i].k ts[i].n _ h (num_le ht i hi) _
/-- A variable has nothing below it: it is used there once, or not at all. -/
theorem lo_var {ts : List Td} (ht : termB ts = true) (i : Nat) (hi : i < ts.length) (h1 : ts[i].k = 1) : (zI (Zt ts) (i : Int)).lo = ts[i].n + 1 := by
  have T := tiled_all ht i hi
  have ha := T.arity
  rw [h1] at ha
  have h0 : tkidsN 1 = 0 := by decide
  have hk : ts[i].kids = [] := List.eq_nil_of_length_eq_zero (by omega)
  rw [T.eqz, hk]
  simp [zmk, loP, h1]
end Go.Proofs.YtlhhdhmhncjilaaGreat

/- Uses, the specification's. -/
namespace Go.Proofs.YtlhhdhmhncjilaaGreat
open Go.ChangeShapes Go.WideShapes Go.ChangeAt Go.RowKit

set_option maxRecDepth 20000 in
set_option maxHeartbeats 4000000 in
theorem l3Under_any (A : Nat) (k : Int) (ka : Option Addr) (kn kc q : Nat) (w : World) (a0 : w.cell? ⟨A, 0, none⟩ = some (.int .i64 k)) (a5 : w.cell? ⟨A, 5, none⟩ = some (.slice ka kn kc)) (hk : (kn : Int) = tkidsN k) :
    Calls Tryz.prog 33 #[.pointer (some ⟨A, 0, none⟩), .int .i64 q] w fun e w' => e = .returned (.int .i64 (bindN k q)) ∧ Below w.heap.size w w' := by
  have HB := hide (fun W => l3Binds_any k W)
  have hAl := lt_cell a0
  have hk3 : kn ≤ 3 := by have := tkids_le k; omega
  cases hb : bindsB k
  · have HE : Hid (bindN k q = 0) := by show bindN k q = 0; unfold bindN; rw [if_neg (by simp [hb])]
    rw [hb] at HB
    go_enter Tryz.func33, Tryz.ntmps33
    go_wp2_with (go_at_call 39; refine (HB.out _).mono ?_; rintro e w1 ⟨rfl, hw⟩; have hw := hw.symm; subst hw)
    go_ret
    exact ⟨by rw [HE.out] <;> rfl, Below.refl _ _⟩
  · rw [hb] at HB
    by_cases he : (q : Int) = kn - 1
    · have HE : Hid (bindN k q = 1) := by show bindN k q = 1; unfold bindN; rw [if_pos ⟨hb, by omega⟩]
      have qe : ((q : Int) == (kn : Int) - 1) = true := by simp [he]
      clear he hk
      go_enter Tryz.func33, Tryz.ntmps33
      go_wp2_with (go_at_call 39; refine (HB.out _).mono ?_; rintro e w1 ⟨rfl, hw⟩; have hw := hw.symm; subst hw)
      go_ret
      exact ⟨by rw [HE.out] <;> rfl, Below.refl _ _⟩
    · have HE : Hid (bindN k q = 0) := by show bindN k q = 0; unfold bindN; rw [if_neg (fun h => he (by omega))]
      have qe : ((q : Int) == (kn : Int) - 1) = false := by simp [he]
      clear he hk
      go_enter Tryz.func33, Tryz.ntmps33
      go_wp2_with (go_at_call 39; refine (HB.out _).mono ?_; rintro e w1 ⟨rfl, hw⟩; have hw := hw.symm; subst hw)
      go_ret
      exact ⟨by rw [HE.out] <;> rfl, Below.refl _ _⟩
/-- What is said of l3Uses at a node. -/
def UsesIH (ts : List Td) (pt : Nat → Nat) (n : Nat) : Prop := ∀ (i : Nat) (w : World) (Q : Nat → Prop) (v : Int), i < n → i < ts.length → Forest Q w pt ts ts.length → 0 ≤ v → v + i ≤ 100000 →
  Calls Tryz.prog 19 #[.pointer (some ⟨pt i, 0, none⟩), .int .i64 v] w fun e w' => e = .returned (.int .i64 (usesN ts n i v)) ∧ Below w.heap.size w w'

set_option maxRecDepth 20000 in
set_option maxHeartbeats 4000000 in
theorem l3Uses_step {ts : List Td} {pt : Nat → Nat} (ht : termB ts = true) (n : Nat) (IH : Hid (UsesIH ts pt n)) : UsesIH ts pt (n + 1) := by
  intro i w Q v hin hi F hv0 hv1
  have T := tiled_all ht i hi
  have HF := hide F
  obtain ⟨lv, kv, tn, pr, lr⟩ := F i hi hi
  have hU := usesN_succ ts n i v hi
  have HUL := hide (usesK_le ht n i v hi)
  have HUS := hide (usesK_succ (usesN ts n) ts[i] v)
  have HK := hide T.kin
  have HAR := hide T.arity
  have HUB := hide (uses_bound ht n)
  clear T F
  generalize hx : ts[i] = x at *
  generalize zI (Zt ts) (i : Int) = z at *
  obtain ⟨A, hA⟩ : ∃ A, A = pt i := ⟨_, rfl⟩
  rw [← hA] at tn ⊢
  clear hA hx
  have hAl := (World.ownsRow.lt tn A rfl).2
  have a0 : w.cell? ⟨A, 0, none⟩ = some (.int .i64 x.k) := by rw [World.ownsRow.cellAt tn 0 (by omega)]; rfl
  have a1 : w.cell? ⟨A, 1, none⟩ = some (.int .i64 x.n) := by rw [World.ownsRow.cellAt tn 1 (by omega)]; rfl
  have a7 : w.cell? ⟨A, 7, none⟩ = some (.int .i64 z.lo) := by rw [World.ownsRow.cellAt tn 7 (by omega)]; rfl
  have a5 : w.cell? ⟨A, 5, none⟩ = some kv := by rw [World.ownsRow.cellAt tn 5 (by omega)]; rfl
  clear tn lr
  by_cases hlo : z.lo ≤ v
  · rw [if_pos hlo] at hU
    have HU := hide hU
    have dl : decide (z.lo ≤ v) = true := by simp [hlo]
    clear hU hlo
    go_enter Tryz.func19, Tryz.ntmps19
    go_wp2_with fail
    go_ret
    exact ⟨by rw [HU.out] <;> rfl, Below.refl _ _⟩
  rw [if_neg hlo] at hU
  have dl : decide (z.lo ≤ v) = false := by simp; omega
  by_cases h1 : x.k = 1 ∧ x.n = v
  · rw [if_pos h1] at hU
    have HU := hide hU
    obtain ⟨h1, h2⟩ := h1
    have q1 : (x.k == 1) = true := by simp [h1]
    have q2 : (x.n == v) = true := by simp [h2]
    clear hU hlo h1 h2
    go_enter Tryz.func19, Tryz.ntmps19
    go_wp2_with fail
    go_ret
    exact ⟨by rw [HU.out] <;> rfl, Below.refl _ _⟩
  rw [if_neg h1] at hU
  obtain ⟨ka, kc, rfl, hkl, hkm, hkc⟩ := pr
  rw [List.length_map] at hkl a5
  have HKC := hide hkc
  have HU := hide hU
  unfold maxLen at hkm
  have hkl3 : x.kids.length ≤ 3 := by have := tkids_le x.k; have := HAR.out; omega
  have HND := hide (fun (q : Nat) (W : World) (h0 : W.cell? ⟨A, 0, none⟩ = some (.int .i64 x.k)) (h5 : W.cell? ⟨A, 5, none⟩ = some (.slice ka x.kids.length kc)) => l3Under_any A x.k ka x.kids.length kc q W h0 h5 HAR.out)
  have HBD := hide (fun q : Nat => show 0 ≤ bindN x.k q ∧ bindN x.k q ≤ 1 by unfold bindN; split <;> omega)
  have HH1 := hide h1
  obtain ⟨c1, hc1⟩ : ∃ c1, (x.k == 1) = c1 := ⟨_, rfl⟩
  have hcc : (if c1 = true then x.n == v else false) = false := by
    by_cases e : x.k = 1
    · have : ¬ x.n = v := fun e2 => h1 ⟨e, e2⟩
      simp [this]
    · have : c1 = false := by rw [← hc1]; simp [e]
      simp [this]
  clear hU hlo hkc h1
  cases c1
  · go_enter Tryz.func19, Tryz.ntmps19
    go_wp2_with fail
    go_loopw [5, 6] (fun o ii wr => ∃ (q : Nat), q ≤ x.kids.length ∧ ii = .int .i64 q ∧ o = .int .i64 (usesK (usesN ts n) x v q) ∧ Hid (Below w.heap.size w wr)) (fun _ ii _ => x.kids.length - (intOf ii).toNat)
    case atStart => exact ⟨0, by omega, rfl, rfl, Below.refl _ _⟩
    case round =>
      obtain ⟨q, hq, rfl, rfl, HB⟩ := hrel
      have hAr : A < wr.heap.size := Nat.lt_of_lt_of_le hAl HB.out.size
      have b5 : wr.cell? ⟨A, 5, none⟩ = some (.slice ka x.kids.length kc) := keep_cell HB.out a5
      have b0 : wr.cell? ⟨A, 0, none⟩ = some (.int .i64 x.k) := keep_cell HB.out a0
      by_cases hlt : q < x.kids.length
      · have hlt' : (q : Int) < x.kids.length := by omega
        have HQ1 := hide (show q + 1 ≤ x.kids.length from hlt)
        obtain ⟨bb, oo, rfl, _, cc⟩ := HKC.out (by simpa using (show 0 < x.kids.length by omega))
        have k1 := cc q (by simpa using hlt)
        simp only [ptrV, List.getElem_map] at k1
        have r1 := HK.out x.kids[q] (List.getElem_mem hlt)
        have m1 : wr.cell? ⟨bb, oo + q, none⟩ = some (.pointer (some ⟨pt x.kids[q].toNat, 0, none⟩)) := keep_cell HB.out k1
        have hml := lt_cell m1
        obtain ⟨bn0, bn1⟩ := HBD.out q
        have HC : Hid (∀ W, Below w.heap.size w W → Calls Tryz.prog 19 #[.pointer (some ⟨pt x.kids[q].toNat, 0, none⟩), .int .i64 (v + bindN x.k q)] W fun e w' => e = .returned (.int .i64 (usesN ts n x.kids[q].toNat (v + bindN x.k q))) ∧ Below W.heap.size W w') :=
          fun W hW => IH.out x.kids[q].toNat W Q (v + bindN x.k q) (by omega) (by omega) (HF.out.to (Carry.below hW)) (by omega) (by omega)
        have HNX := hide (HUS.out q hlt)
        have hu1 := HUL.out q hq
        have hu2 := HUB.out x.kids[q].toNat (v + bindN x.k q) (by omega)
        have hu3 := HUL.out (q + 1) hlt
        rw [HUS.out q hlt] at hu3
        have HNB := hide (HND.out q)
        clear hu2 cc k1 r1
        generalize usesN ts n x.kids[q].toNat (v + bindN x.k q) = U at *
        generalize usesK (usesN ts n) x v q = V at *
        generalize pt x.kids[q].toNat = P1 at *
        generalize bindN x.k q = bn at *
        have hw1 : IntKind.i64.wrap (v + bn) = v + bn := by rw [IntKind.wrap_i64]; omega
        have hw2 : IntKind.i64.wrap (V + U) = V + U := by rw [IntKind.wrap_i64]; omega
        have hS0 : (fun w' : World => Below wr.heap.size wr w') wr.drew := (Below.refl _ _).drew
        go_wp2_with fail
        refine anyE_region (L := 15) (S := fun w' : World => Below wr.heap.size wr w') (by kernel_rfl) ?_
        refine anyE_take 0 (v := ?v1) rfl (by kernel_rfl) (by kernel_rfl) (by kernel_rfl) (by kernel_rfl) (fun _ _ _ h => h) (by rfl) ?hy1 hS0 ?rest1
        case hy1 =>
          intro wx hx
          have s1 := keep_cell hx b5
          have s2 := keep_cell hx m1
          go_simp
          try rfl
        case rest1 =>
        intro K hK
        go_simp
        refine hK.out _ ?_
        clear hK K
        refine anyE_take 1 (v := ?v2) rfl (by kernel_rfl) (by kernel_rfl) (by kernel_rfl) (by kernel_rfl) (fun _ _ _ h => h) (by rfl) ?hy2 hS0 ?rest2
        case hy2 =>
          intro wx hx
          have s1 := keep_cell hx b5
          have s2 := keep_cell hx m1
          go_simp
          try rfl
        case rest2 =>
        intro K hK
        go_simp
        refine hK.out _ ?_
        clear hK K
        refine anyE_take 2 (v := ?v3) rfl (by kernel_rfl) (by kernel_rfl) (by kernel_rfl) (by kernel_rfl) (fun _ _ _ h => h) (by rfl) ?hy3 hS0 ?rest3
        case hy3 =>
          intro wx hx
          have s1 := keep_cell hx b5
          have s2 := keep_cell hx m1
          go_simp
          try rfl
        case rest3 =>
        intro K hK
        go_simp
        refine hK.out _ ?_
        clear hK K
        refine anyE_take 3 (v := ?v4) rfl (by kernel_rfl) (by kernel_rfl) (by kernel_rfl) (by kernel_rfl) (fun _ _ _ h => h) (by rfl) ?hy4 hS0 ?rest4
        case hy4 =>
          intro wx hx
          have s1 := keep_cell hx b5
          have s2 := keep_cell hx m1
          go_simp
          try rfl
        case rest4 =>
        intro K hK
        go_simp
        refine hK.out _ ?_
        clear hK K
        refine anyE_take 4 (v := ?v5) rfl (by kernel_rfl) (by kernel_rfl) (by kernel_rfl) (by kernel_rfl) (fun _ _ _ h => h) (by rfl) ?hy5 hS0 ?rest5
        case hy5 =>
          intro wx hx
          have s1 := keep_cell hx b5
          have s2 := keep_cell hx m1
          go_simp
          try rfl
        case rest5 =>
        intro K hK
        go_simp
        refine hK.out _ ?_
        clear hK K
        refine anyE_take 5 (v := ?v6) rfl (by kernel_rfl) (by kernel_rfl) (by kernel_rfl) (by kernel_rfl) (fun _ _ _ h => h) (by rfl) ?hy6 hS0 ?rest6
        case hy6 =>
          intro wx hx
          have s1 := keep_cell hx b5
          have s2 := keep_cell hx m1
          go_simp
          try rfl
        case rest6 =>
        intro K hK
        go_simp
        refine hK.out _ ?_
        clear hK K
        refine anyE_take 6 (v := ?v7) rfl (by kernel_rfl) (by kernel_rfl) (by kernel_rfl) (by kernel_rfl) (fun _ _ _ h => h) (by rfl) ?hy7 hS0 ?rest7
        case hy7 =>
          intro wx hx
          have s1 := keep_cell hx b5
          have s2 := keep_cell hx m1
          go_simp
          try rfl
        case rest7 =>
        intro K hK
        go_simp
        refine hK.out _ ?_
        clear hK K
        refine anyE_take 7 (v := ?v8) rfl (by kernel_rfl) (by kernel_rfl) (by kernel_rfl) (by kernel_rfl) (fun _ _ _ h => h) (by rfl) ?hy8 hS0 ?rest8
        case hy8 =>
          intro wx hx
          have s1 := keep_cell hx b5
          have s2 := keep_cell hx m1
          go_simp
          try rfl
        case rest8 =>
        intro K hK
        go_simp
        refine hK.out _ ?_
        clear hK K
        refine anyE_take 8 (v := ?v9) rfl (by kernel_rfl) (by kernel_rfl) (by kernel_rfl) (by kernel_rfl) (fun _ _ _ h => h) (by rfl) ?hy9 hS0 ?rest9
        case hy9 =>
          intro wx hx
          have s1 := keep_cell hx b5
          have s2 := keep_cell hx m1
          go_simp
          try rfl
        case rest9 =>
        intro K hK
        go_simp
        refine hK.out _ ?_
        clear hK K
        refine anyE_take 9 (v := ?v10) rfl (by kernel_rfl) (by kernel_rfl) (by kernel_rfl) (by kernel_rfl) (fun _ _ _ h => h) (by rfl) ?hy10 hS0 ?rest10
        case hy10 =>
          intro wx hx
          have s1 := keep_cell hx b5
          have s2 := keep_cell hx m1
          go_simp
          try rfl
        case rest10 =>
        intro K hK
        go_simp
        refine hK.out _ ?_
        clear hK K
        refine anyE_take 10 (v := ?v11) rfl (by kernel_rfl) (by kernel_rfl) (by kernel_rfl) (by kernel_rfl) (fun _ _ _ h => h) (by rfl) ?hy11 hS0 ?rest11
        case hy11 =>
          intro wx hx
          have s1 := keep_cell hx b5
          have s2 := keep_cell hx m1
          go_simp
          try rfl
        case rest11 =>
        intro K hK
        go_simp
        refine hK.out _ ?_
        clear hK K
        refine anyE_one 11 (by kernel_rfl) rfl (fun K hK => ?_)
        go_simp
        refine (HNB.out wr.drew b0 b5).mono ?_
        rintro e w2 ⟨rfl, hb2⟩
        have hb2' : Below wr.heap.size wr w2 := (Below.refl wr.heap.size wr).drew.trans hb2
        refine hK.out _ _ (fun _ => hb2') ?_
        clear hK K hS0 hb2
        refine anyE_take 12 (v := ?v12) rfl (by kernel_rfl) (by kernel_rfl) (by kernel_rfl) (by kernel_rfl) (fun _ _ _ h => h) (by rfl) ?hy12 hb2' ?rest12
        case hy12 =>
          intro wx hx
          have s1 := keep_cell hx b5
          have s2 := keep_cell hx m1
          go_simp
          try rfl
        case rest12 =>
        intro K hK
        go_simp
        refine hK.out _ ?_
        clear hK K
        refine anyE_one 13 (by kernel_rfl) rfl (fun K hK => ?_)
        go_simp
        refine (HC.out w2 (bel_trans HB.out hb2')).mono ?_
        rintro e w3 ⟨rfl, hb3⟩
        have hb3' := bel_trans hb2' hb3
        refine hK.out _ _ (fun _ => hb3') ?_
        clear hK K hb3 hb2'
        refine anyE_take 14 (v := ?v13) rfl (by kernel_rfl) (by kernel_rfl) (by kernel_rfl) (by kernel_rfl) (fun _ _ _ h => h) (by rfl) ?hy13 hb3' ?rest13
        case hy13 =>
          intro wx hx
          have s1 := keep_cell hx b5
          have s2 := keep_cell hx m1
          go_simp
          try rfl
        case rest13 =>
        intro K hK
        go_simp
        refine hK.out _ ?_
        clear hK K
        refine anyE_one 15 (by kernel_rfl) rfl (fun K hK => ?_)
        go_simp
        refine hK.out _ _ (fun h => absurd rfl h) ?_
        clear hK K
        refine anyE_done (by kernel_rfl) ?_ _
        have HB3 := hide (bel_trans HB.out hb3')
        clear hb3'
        go_wp2_with fail
        go_roundw
        case rel => exact ⟨q + 1, HQ1.out, by go_num, by rw [HNX.out], HB3⟩
        case measure => have := HQ1.out; simp [intOf]; omega
      · have hlt' : ¬ (q : Int) < x.kids.length := by omega
        have e : q = x.kids.length := by omega
        subst e
        go_wp2_with fail
        go_ret
        exact ⟨by rw [HU.out] <;> rfl, HB.out⟩
  · simp only [if_true] at hcc
    go_enter Tryz.func19, Tryz.ntmps19
    go_wp2_with fail
    go_loopw [5, 6] (fun o ii wr => ∃ (q : Nat), q ≤ x.kids.length ∧ ii = .int .i64 q ∧ o = .int .i64 (usesK (usesN ts n) x v q) ∧ Hid (Below w.heap.size w wr)) (fun _ ii _ => x.kids.length - (intOf ii).toNat)
    case atStart => exact ⟨0, by omega, rfl, rfl, Below.refl _ _⟩
    case round =>
      obtain ⟨q, hq, rfl, rfl, HB⟩ := hrel
      have hAr : A < wr.heap.size := Nat.lt_of_lt_of_le hAl HB.out.size
      have b5 : wr.cell? ⟨A, 5, none⟩ = some (.slice ka x.kids.length kc) := keep_cell HB.out a5
      have b0 : wr.cell? ⟨A, 0, none⟩ = some (.int .i64 x.k) := keep_cell HB.out a0
      by_cases hlt : q < x.kids.length
      · have hlt' : (q : Int) < x.kids.length := by omega
        have HQ1 := hide (show q + 1 ≤ x.kids.length from hlt)
        obtain ⟨bb, oo, rfl, _, cc⟩ := HKC.out (by simpa using (show 0 < x.kids.length by omega))
        have k1 := cc q (by simpa using hlt)
        simp only [ptrV, List.getElem_map] at k1
        have r1 := HK.out x.kids[q] (List.getElem_mem hlt)
        have m1 : wr.cell? ⟨bb, oo + q, none⟩ = some (.pointer (some ⟨pt x.kids[q].toNat, 0, none⟩)) := keep_cell HB.out k1
        have hml := lt_cell m1
        obtain ⟨bn0, bn1⟩ := HBD.out q
        have HC : Hid (∀ W, Below w.heap.size w W → Calls Tryz.prog 19 #[.pointer (some ⟨pt x.kids[q].toNat, 0, none⟩), .int .i64 (v + bindN x.k q)] W fun e w' => e = .returned (.int .i64 (usesN ts n x.kids[q].toNat (v + bindN x.k q))) ∧ Below W.heap.size W w') :=
          fun W hW => IH.out x.kids[q].toNat W Q (v + bindN x.k q) (by omega) (by omega) (HF.out.to (Carry.below hW)) (by omega) (by omega)
        have HNX := hide (HUS.out q hlt)
        have hu1 := HUL.out q hq
        have hu2 := HUB.out x.kids[q].toNat (v + bindN x.k q) (by omega)
        have hu3 := HUL.out (q + 1) hlt
        rw [HUS.out q hlt] at hu3
        have HNB := hide (HND.out q)
        clear hu2 cc k1 r1
        generalize usesN ts n x.kids[q].toNat (v + bindN x.k q) = U at *
        generalize usesK (usesN ts n) x v q = V at *
        generalize pt x.kids[q].toNat = P1 at *
        generalize bindN x.k q = bn at *
        have hw1 : IntKind.i64.wrap (v + bn) = v + bn := by rw [IntKind.wrap_i64]; omega
        have hw2 : IntKind.i64.wrap (V + U) = V + U := by rw [IntKind.wrap_i64]; omega
        have hS0 : (fun w' : World => Below wr.heap.size wr w') wr.drew := (Below.refl _ _).drew
        go_wp2_with fail
        refine anyE_region (L := 15) (S := fun w' : World => Below wr.heap.size wr w') (by kernel_rfl) ?_
        refine anyE_take 0 (v := ?v14) rfl (by kernel_rfl) (by kernel_rfl) (by kernel_rfl) (by kernel_rfl) (fun _ _ _ h => h) (by rfl) ?hy14 hS0 ?rest14
        case hy14 =>
          intro wx hx
          have s1 := keep_cell hx b5
          have s2 := keep_cell hx m1
          go_simp
          try rfl
        case rest14 =>
        intro K hK
        go_simp
        refine hK.out _ ?_
        clear hK K
        refine anyE_take 1 (v := ?v15) rfl (by kernel_rfl) (by kernel_rfl) (by kernel_rfl) (by kernel_rfl) (fun _ _ _ h => h) (by rfl) ?hy15 hS0 ?rest15
        case hy15 =>
          intro wx hx
          have s1 := keep_cell hx b5
          have s2 := keep_cell hx m1
          go_simp
          try rfl
        case rest15 =>
        intro K hK
        go_simp
        refine hK.out _ ?_
        clear hK K
        refine anyE_take 2 (v := ?v16) rfl (by kernel_rfl) (by kernel_rfl) (by kernel_rfl) (by kernel_rfl) (fun _ _ _ h => h) (by rfl) ?hy16 hS0 ?rest16
        case hy16 =>
          intro wx hx
          have s1 := keep_cell hx b5
          have s2 := keep_cell hx m1
          go_simp
          try rfl
        case rest16 =>
        intro K hK
        go_simp
        refine hK.out _ ?_
        clear hK K
        refine anyE_take 3 (v := ?v17) rfl (by kernel_rfl) (by kernel_rfl) (by kernel_rfl) (by kernel_rfl) (fun _ _ _ h => h) (by rfl) ?hy17 hS0 ?rest17
        case hy17 =>
          intro wx hx
          have s1 := keep_cell hx b5
          have s2 := keep_cell hx m1
          go_simp
          try rfl
        case rest17 =>
        intro K hK
        go_simp
        refine hK.out _ ?_
        clear hK K
        refine anyE_take 4 (v := ?v18) rfl (by kernel_rfl) (by kernel_rfl) (by kernel_rfl) (by kernel_rfl) (fun _ _ _ h => h) (by rfl) ?hy18 hS0 ?rest18
        case hy18 =>
          intro wx hx
          have s1 := keep_cell hx b5
          have s2 := keep_cell hx m1
          go_simp
          try rfl
        case rest18 =>
        intro K hK
        go_simp
        refine hK.out _ ?_
        clear hK K
        refine anyE_take 5 (v := ?v19) rfl (by kernel_rfl) (by kernel_rfl) (by kernel_rfl) (by kernel_rfl) (fun _ _ _ h => h) (by rfl) ?hy19 hS0 ?rest19
        case hy19 =>
          intro wx hx
          have s1 := keep_cell hx b5
          have s2 := keep_cell hx m1
          go_simp
          try rfl
        case rest19 =>
        intro K hK
        go_simp
        refine hK.out _ ?_
        clear hK K
        refine anyE_take 6 (v := ?v20) rfl (by kernel_rfl) (by kernel_rfl) (by kernel_rfl) (by kernel_rfl) (fun _ _ _ h => h) (by rfl) ?hy20 hS0 ?rest20
        case hy20 =>
          intro wx hx
          have s1 := keep_cell hx b5
          have s2 := keep_cell hx m1
          go_simp
          try rfl
        case rest20 =>
        intro K hK
        go_simp
        refine hK.out _ ?_
        clear hK K
        refine anyE_take 7 (v := ?v21) rfl (by kernel_rfl) (by kernel_rfl) (by kernel_rfl) (by kernel_rfl) (fun _ _ _ h => h) (by rfl) ?hy21 hS0 ?rest21
        case hy21 =>
          intro wx hx
          have s1 := keep_cell hx b5
          have s2 := keep_cell hx m1
          go_simp
          try rfl
        case rest21 =>
        intro K hK
        go_simp
        refine hK.out _ ?_
        clear hK K
        refine anyE_take 8 (v := ?v22) rfl (by kernel_rfl) (by kernel_rfl) (by kernel_rfl) (by kernel_rfl) (fun _ _ _ h => h) (by rfl) ?hy22 hS0 ?rest22
        case hy22 =>
          intro wx hx
          have s1 := keep_cell hx b5
          have s2 := keep_cell hx m1
          go_simp
          try rfl
        case rest22 =>
        intro K hK
        go_simp
        refine hK.out _ ?_
        clear hK K
        refine anyE_take 9 (v := ?v23) rfl (by kernel_rfl) (by kernel_rfl) (by kernel_rfl) (by kernel_rfl) (fun _ _ _ h => h) (by rfl) ?hy23 hS0 ?rest23
        case hy23 =>
          intro wx hx
          have s1 := keep_cell hx b5
          have s2 := keep_cell hx m1
          go_simp
          try rfl
        case rest23 =>
        intro K hK
        go_simp
        refine hK.out _ ?_
        clear hK K
        refine anyE_take 10 (v := ?v24) rfl (by kernel_rfl) (by kernel_rfl) (by kernel_rfl) (by kernel_rfl) (fun _ _ _ h => h) (by rfl) ?hy24 hS0 ?rest24
        case hy24 =>
          intro wx hx
          have s1 := keep_cell hx b5
          have s2 := keep_cell hx m1
          go_simp
          try rfl
        case rest24 =>
        intro K hK
        go_simp
        refine hK.out _ ?_
        clear hK K
        refine anyE_one 11 (by kernel_rfl) rfl (fun K hK => ?_)
        go_simp
        refine (HNB.out wr.drew b0 b5).mono ?_
        rintro e w2 ⟨rfl, hb2⟩
        have hb2' : Below wr.heap.size wr w2 := (Below.refl wr.heap.size wr).drew.trans hb2
        refine hK.out _ _ (fun _ => hb2') ?_
        clear hK K hS0 hb2
        refine anyE_take 12 (v := ?v25) rfl (by kernel_rfl) (by kernel_rfl) (by kernel_rfl) (by kernel_rfl) (fun _ _ _ h => h) (by rfl) ?hy25 hb2' ?rest25
        case hy25 =>
          intro wx hx
          have s1 := keep_cell hx b5
          have s2 := keep_cell hx m1
          go_simp
          try rfl
        case rest25 =>
        intro K hK
        go_simp
        refine hK.out _ ?_
        clear hK K
        refine anyE_one 13 (by kernel_rfl) rfl (fun K hK => ?_)
        go_simp
        refine (HC.out w2 (bel_trans HB.out hb2')).mono ?_
        rintro e w3 ⟨rfl, hb3⟩
        have hb3' := bel_trans hb2' hb3
        refine hK.out _ _ (fun _ => hb3') ?_
        clear hK K hb3 hb2'
        refine anyE_take 14 (v := ?v26) rfl (by kernel_rfl) (by kernel_rfl) (by kernel_rfl) (by kernel_rfl) (fun _ _ _ h => h) (by rfl) ?hy26 hb3' ?rest26
        case hy26 =>
          intro wx hx
          have s1 := keep_cell hx b5
          have s2 := keep_cell hx m1
          go_simp
          try rfl
        case rest26 =>
        intro K hK
        go_simp
        refine hK.out _ ?_
        clear hK K
        refine anyE_one 15 (by kernel_rfl) rfl (fun K hK => ?_)
        go_simp
        refine hK.out _ _ (fun h => absurd rfl h) ?_
        clear hK K
        refine anyE_done (by kernel_rfl) ?_ _
        have HB3 := hide (bel_trans HB.out hb3')
        clear hb3'
        go_wp2_with fail
        go_roundw
        case rel => exact ⟨q + 1, HQ1.out, by go_num, by rw [HNX.out], HB3⟩
        case measure => have := HQ1.out; simp [intOf]; omega
      · have hlt' : ¬ (q : Int) < x.kids.length := by omega
        have e : q = x.kids.length := by omega
        subst e
        go_wp2_with fail
        go_ret
        exact ⟨by rw [HU.out] <;> rfl, HB.out⟩
theorem l3Uses_all {ts : List Td} {pt : Nat → Nat} (ht : termB ts = true) : ∀ n, UsesIH ts pt n
  | 0 => fun i w Q v h => by omega
  | n + 1 => l3Uses_step ht n (hide (l3Uses_all ht n))
end Go.Proofs.YtlhhdhmhncjilaaGreat
