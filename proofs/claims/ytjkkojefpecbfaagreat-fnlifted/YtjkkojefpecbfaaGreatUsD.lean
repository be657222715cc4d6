/- How often a term uses a variable: no program is walked here. -/
import Derived.Test.YtjkkojefpecbfaaGreatTrA
import Derived.Test.YtjkkojefpecbfaaGreatStH
namespace Go.Proofs.YtjkkojefpecbfaaGreat

def upTo (f : Nat → Int) : Nat → Int
  | 0 => 0
  | j + 1 => upTo f j + f j
/-- How often a variable is used in the first kids of a node. -/
def usesK (g : Nat → Int → Int) (td : Td) (v : Int) (j : Nat) : Int := upTo (fun q => g (td.kids.getD q 0).toNat (v + bindN td.k q)) j
/-- How often the part below a node uses a variable. -/
def usesN (ts : List Td) : Nat → Nat → Int → Int
  | 0, _, _ => 0
  | n + 1, i, v => if (zI (Zt ts) (i : Int)).lo ≤ v then 0 else if (tdI ts (i : Int)).k = 1 ∧ (tdI ts (i : Int)).n = v then 1 else usesK (usesN ts n) (tdI ts (i : Int)) v (tdI ts (i : Int)).kids.length
theorem usesN_succ (ts : List Td) (n i : Nat) (v : Int) (hi : i < ts.length) : usesN ts (n + 1) i v = if (zI (Zt ts) (i : Int)).lo ≤ v then 0 else if ts[i].k = 1 ∧ ts[i].n = v then 1 else usesK (usesN ts n) ts[i] v ts[i].kids.length := by
  rw [usesN, tdI_at hi]
theorem usesK_succ (g : Nat → Int → Int) (td : Td) (v : Int) (j : Nat) (hj : j < td.kids.length) : usesK g td v (j + 1) = usesK g td v j + g (td.kids[j]).toNat (v + bindN td.k j) := by
  simp [usesK, upTo, List.getD, hj]
theorem usesK_bound (g : Nat → Int → Int) (td : Td) (v : Int) (Z : Int → Zs) (h : ∀ q (hq : q < td.kids.length) u, 0 ≤ g (td.kids[q]).toNat u ∧ g (td.kids[q]).toNat u ≤ (Z td.kids[q]).sz) : ∀ j, j ≤ td.kids.length → 0 ≤ usesK g td v j ∧ usesK g td v j ≤ sumZ ((td.kids.map Z).take j)
  | 0, _ => by simp [usesK, upTo, sumZ]
  | j + 1, hj => by
    have ih := usesK_bound g td v Z h j (by omega)
    have hh := h j (by omega) (v + bindN td.k j)
    rw [usesK_succ g td v j (by omega)]
    have hs := sumZ_snoc (td.kids.map Z) j (by simpa using (show j < td.kids.length by omega))
    rw [List.getElem_map] at hs
    rw [hs]
    omega
theorem uses_bound {ts : List Td} (ht : termB ts = true) : ∀ (n i : Nat) (v : Int), i < ts.length → 0 ≤ usesN ts n i v ∧ usesN ts n i v ≤ szI ts (i : Int)
  | 0, i, v, hi => ⟨Int.le_refl _, by have := (tiled_all ht i hi).one; simp only [usesN]; omega⟩
  | n + 1, i, v, hi => by
    have T := tiled_all ht i hi
    have h1 := T.one
    rw [usesN_succ ts n i v hi]
    split
    · omega
    split
    · omega
    have hb := usesK_bound (usesN ts n) ts[i] v (zI (Zt ts)) (fun q hq u => by
      have hk := T.kin _ (List.getElem_mem hq)
      have := uses_bound ht n (ts[i].kids[q]).toNat u (by omega)
      unfold szI at this
      rw [show (((ts[i].kids[q]).toNat : Nat) : Int) = ts[i].kids[q] by omega] at this
      exact this) ts[i].kids.length (Nat.le_refl _)
    have hs : szI ts (i : Int) = 1 + sumZ (ts[i].kids.map (zI (Zt ts))) := by unfold szI; rw [T.eqz]; rfl
    rw [List.take_of_length_le (by simp)] at hb
    omega
theorem num_le {ts : List Td} (ht : termB ts = true) (i : Nat) (hi : i < ts.length) : ts[i].k = 1 → 0 ≤ ts[i].n ∧ ts[i].n ≤ 20000 := num_of (fields_all ht i hi)
theorem lo_le {ts : List Td} (ht : termB ts = true) : ∀ i : Nat, i < ts.length → 0 ≤ (zI (Zt ts) (i : Int)).lo ∧ (zI (Zt ts) (i : Int)).lo ≤ 20001 := by
  intro i
  induction i using Nat.strongRecOn with
  | ind i ih =>
    intro hi
    have T := tiled_all ht i hi
    have h : ∀ z ∈ ts[i].kids.map (zI (Zt ts)), ZOk z := fun z hz => by
      obtain ⟨c, hc, rfl⟩ := List.mem_map.1 hz
      have hk := T.kin c hc
      have h1 := (tiled_all ht c.toNat (by omega)).one
      have h2 := ih c.toNat (by omega) (by omega)
      unfold szI at h1
      rw [show ((c.toNat : Nat) : Int) = c by omega] at h1 h2
      exact ⟨h1, h2⟩
    rw [T.eqz]
    exact loP_bounds ts[i].k ts[i].n _ h (num_le ht i hi) _
/-- A variable has nothing below it: it is used there once, or not at all. -/
theorem lo_var {ts : List Td} (ht : termB ts = true) (i : Nat) (hi : i < ts.length) (h1 : ts[i].k = 1) : (zI (Zt ts) (i : Int)).lo = ts[i].n + 1 := by
  have T := tiled_all ht i hi
  have ha := T.arity
  rw [h1] at ha
  have h0 : tkidsN 1 = 0 := by decide
  have hk : ts[i].kids = [] := List.eq_nil_of_length_eq_zero (by omega)
  rw [T.eqz, hk]
  simp [zmk, loP, h1]
end Go.Proofs.YtjkkojefpecbfaaGreat

/- The functions that Uses hands to fold. -/
namespace Go.Proofs.YtjkkojefpecbfaaGreat
open Go.ChangeShapes Go.WideShapes Go.ChangeAt Go.RowKit

/-- What is known of a node without its kids. -/
def knowB (k nn lo u v : Int) : Bool := if k = 1 ∧ nn - u = v then true else decide (lo - u ≤ v)
def knowN (k nn u v : Int) : Int := if k = 1 ∧ nn - u = v then 1 else 0
set_option maxRecDepth 20000 in
set_option maxHeartbeats 4000000 in
theorem known_any (A vb : Nat) (k nn lo u v : Int) (w : World) (a0 : w.cell? ⟨A, 0, none⟩ = some (.int .i64 k)) (a1 : w.cell? ⟨A, 1, none⟩ = some (.int .i64 nn)) (a10 : w.cell? ⟨A, 10, none⟩ = some (.int .i64 lo)) (av : w.cell? ⟨vb, 0, none⟩ = some (.int .i64 v)) (hu : 0 ≤ u ∧ u ≤ 100000) (hn : k = 1 → 0 ≤ nn ∧ nn ≤ 20000) (hlo : 0 ≤ lo ∧ lo ≤ 20001) :
    Calls Tryz.prog 87 #[.pointer (some ⟨A, 0, none⟩), .int .i64 u, .pointer (some ⟨vb, 0, none⟩)] w fun e w' => e = .returned (.tuple #[.int .i64 (knowN k nn u v), .bool (knowB k nn lo u v)]) ∧ Below w.heap.size w w' := by
  have hAl := lt_cell a0
  have hvl := lt_cell av
  have p0 : ∀ p : Bel w.heap.size w, p.w'.cell? ⟨A, 0, none⟩ = some (.int .i64 k) := fun p => p.cell hAl a0
  have p1 : ∀ p : Bel w.heap.size w, p.w'.cell? ⟨A, 1, none⟩ = some (.int .i64 nn) := fun p => p.cell hAl a1
  have pv : ∀ p : Bel w.heap.size w, p.w'.cell? ⟨vb, 0, none⟩ = some (.int .i64 v) := fun p => p.cell hvl av
  haveI := bel_ne w.heap.size w
  have hwl : IntKind.i64.wrap (lo - u) = lo - u := by rw [IntKind.wrap_i64]; omega
  by_cases h1 : k = 1
  · have q1 : (k == 1) = true := by simp [h1]
    obtain ⟨n0, n1⟩ := hn h1
    have hwn : IntKind.i64.wrap (nn - u) = nn - u := by rw [IntKind.wrap_i64]; omega
    by_cases h2 : nn - u = v
    · have q2 : (nn - u == v) = true := by simp [h2]
      have HE : Hid (knowN k nn u v = 1 ∧ knowB k nn lo u v = true) := by unfold knowN knowB; rw [if_pos ⟨h1, h2⟩, if_pos ⟨h1, h2⟩]; exact ⟨rfl, rfl⟩
      rw [HE.out.1, HE.out.2]
      clear h1 h2 hn
      go_enter Tryz.func87, Tryz.ntmps87
      go_wp2_with fail
      refine wp_region_belH w.heap.size (by kernel_rfl) (by kernel_rfl) (fun Q' hQ' => ?_)
      repeat (refine QW.step (fun K hK => ?_); go_simp; first | (refine hK _ ?_; clear hK K) | fail)
      refine QW.nil ?_
      refine hQ'.out _ (fun p => ?_)
      clear hQ'
      go_wp2_with fail
      refine bodyPost_ret (v := .tuple #[.int .i64 1, .bool true]) (by simp [results, Tryz.results87, go_sem]) rfl ⟨rfl, p.h⟩
    · have q2 : (nn - u == v) = false := by simp [h2]
      have HE : Hid (knowN k nn u v = 0 ∧ knowB k nn lo u v = decide (lo - u ≤ v)) := by unfold knowN knowB; rw [if_neg (fun h => h2 h.2), if_neg (fun h => h2 h.2)]; exact ⟨rfl, rfl⟩
      rw [HE.out.1, HE.out.2]
      clear h1 h2 hn
      go_enter Tryz.func87, Tryz.ntmps87
      go_wp2_with fail
      refine wp_region_belH w.heap.size (by kernel_rfl) (by kernel_rfl) (fun Q' hQ' => ?_)
      repeat (refine QW.step (fun K hK => ?_); go_simp; first | (refine hK _ ?_; clear hK K) | fail)
      refine QW.nil ?_
      refine hQ'.out _ (fun p => ?_)
      clear hQ'
      have r10 : ∀ r : Bel w.heap.size p.w', r.w'.cell? ⟨A, 10, none⟩ = some (.int .i64 lo) := fun r => r.cell hAl (p.cell hAl a10)
      clear p0 p1 pv
      have rv : ∀ r : Bel w.heap.size p.w', r.w'.cell? ⟨vb, 0, none⟩ = some (.int .i64 v) := fun r => r.cell hvl (p.cell hvl av)
      have hA2 : A < p.w'.heap.size := Nat.lt_of_lt_of_le hAl p.h.size
      have hv2 : vb < p.w'.heap.size := Nat.lt_of_lt_of_le hvl p.h.size
      haveI := bel_ne w.heap.size p.w'
      go_wp2_with fail
      refine wp_region_belH w.heap.size (by kernel_rfl) (by kernel_rfl) (fun Q' hQ' => ?_)
      repeat (refine QW.step (fun K hK => ?_); go_simp; first | (refine hK _ ?_; clear hK K) | fail)
      refine QW.nil ?_
      refine hQ'.out _ (fun r => ?_)
      clear hQ'
      go_wp2_with fail
      refine bodyPost_ret (v := .tuple #[.int .i64 0, .bool (decide (lo - u ≤ v))]) (by simp [results, Tryz.results87, go_sem]) rfl ⟨rfl, p.h.trans r.h⟩
  · have q1 : (k == 1) = false := by simp [h1]
    have HE : Hid (knowN k nn u v = 0 ∧ knowB k nn lo u v = decide (lo - u ≤ v)) := by unfold knowN knowB; rw [if_neg (fun h => h1 h.1), if_neg (fun h => h1 h.1)]; exact ⟨rfl, rfl⟩
    rw [HE.out.1, HE.out.2]
    clear h1 hn
    go_enter Tryz.func87, Tryz.ntmps87
    go_wp2_with fail
    refine wp_region_belH w.heap.size (by kernel_rfl) (by kernel_rfl) (fun Q' hQ' => ?_)
    repeat (refine QW.step (fun K hK => ?_); go_simp; first | (refine hK _ ?_; clear hK K) | fail)
    refine QW.nil ?_
    refine hQ'.out _ (fun p => ?_)
    clear hQ'
    have r10 : ∀ r : Bel w.heap.size p.w', r.w'.cell? ⟨A, 10, none⟩ = some (.int .i64 lo) := fun r => r.cell hAl (p.cell hAl a10)
    clear p0 p1 pv
    have rv : ∀ r : Bel w.heap.size p.w', r.w'.cell? ⟨vb, 0, none⟩ = some (.int .i64 v) := fun r => r.cell hvl (p.cell hvl av)
    have hA2 : A < p.w'.heap.size := Nat.lt_of_lt_of_le hAl p.h.size
    have hv2 : vb < p.w'.heap.size := Nat.lt_of_lt_of_le hvl p.h.size
    haveI := bel_ne w.heap.size p.w'
    go_wp2_with fail
    refine wp_region_belH w.heap.size (by kernel_rfl) (by kernel_rfl) (fun Q' hQ' => ?_)
    repeat (refine QW.step (fun K hK => ?_); go_simp; first | (refine hK _ ?_; clear hK K) | fail)
    refine QW.nil ?_
    refine hQ'.out _ (fun r => ?_)
    clear hQ'
    go_wp2_with fail
    refine bodyPost_ret (v := .tuple #[.int .i64 0, .bool (decide (lo - u ≤ v))]) (by simp [results, Tryz.results87, go_sem]) rfl ⟨rfl, p.h.trans r.h⟩

set_option maxRecDepth 20000 in
set_option maxHeartbeats 4000000 in
theorem joinU_any (A : Nat) (x0 x1 x2 : Int) (w : World) (h0 : 0 ≤ x0 ∧ x0 ≤ 100000) (h1 : 0 ≤ x1 ∧ x1 ≤ 100000) (h2 : 0 ≤ x2 ∧ x2 ≤ 100000) :
    Calls Tryz.prog 88 #[.pointer (some ⟨A, 0, none⟩), .agg #[.int .i64 x0, .int .i64 x1, .int .i64 x2]] w fun e w' => e = .returned (.int .i64 (x0 + x1 + x2)) ∧ Below w.heap.size w w' := by
  have hw1 : IntKind.i64.wrap (x0 + x1) = x0 + x1 := by rw [IntKind.wrap_i64]; omega
  have hw2 : IntKind.i64.wrap (x0 + x1 + x2) = x0 + x1 + x2 := by rw [IntKind.wrap_i64]; omega
  go_enter Tryz.func88, Tryz.ntmps88
  go_wp2_with fail
  go_ret
  exact ⟨rfl, bel_alloc (Below.refl _ _) _⟩
end Go.Proofs.YtjkkojefpecbfaaGreat

/- What fold answers with the functions that Uses hands to it. -/
namespace Go.Proofs.YtjkkojefpecbfaaGreat
open Go.ChangeShapes Go.WideShapes Go.ChangeAt Go.RowKit

/-- The first answers of the kids. -/
def kv3 (f : Nat → Int) (j q : Nat) : Int := if q < j then f q else 0
def k3 (f : Nat → Int) (j : Nat) : List Value := [.int .i64 (kv3 f j 0), .int .i64 (kv3 f j 1), .int .i64 (kv3 f j 2)]
theorem k3_set (f : Nat → Int) (j : Nat) (hj : j < 3) : (k3 f j).set j (.int .i64 (f j)) = k3 f (j + 1) := by
  rcases (show j = 0 ∨ j = 1 ∨ j = 2 by omega) with rfl | rfl | rfl <;> simp [k3, kv3]
theorem k3_sum (f : Nat → Int) (j : Nat) (hj : j ≤ 3) : kv3 f j 0 + kv3 f j 1 + kv3 f j 2 = upTo f j := by
  rcases (show j = 0 ∨ j = 1 ∨ j = 2 ∨ j = 3 by omega) with rfl | rfl | rfl | rfl <;> simp [kv3, upTo]
/-- The block of the kids' answers. -/
def K3At (w : World) (b : Nat) (xs : List Value) : Prop := w.ownsRow 0 133 3 (.slice (some ⟨b, 0, none⟩) 1 1) 1 xs
theorem K3At.cell {w : World} {b : Nat} {xs : List Value} (h : K3At w b xs) (o : Nat) (ho : o < 3) : w.cell? ⟨b, o, none⟩ = xs[o]? := World.ownsRow.cellAt h o (by omega)
theorem K3At.set {w : World} {b : Nat} {xs : List Value} (h : K3At w b xs) (o : Nat) (u : Value) : K3At (w.setCell ⟨b, o, none⟩ u) b (xs.set o u) := (World.ownsRow.stored h o u).1
theorem K3At.frozen {w : World} {b : Nat} {xs : List Value} (h : K3At w b xs) (o : Nat) : w.frozen? ⟨b, o, none⟩ = false := World.ownsRow.frozenAt h o
theorem K3At.lt {w : World} {b : Nat} {xs : List Value} (h : K3At w b xs) : b < w.heap.size := (World.ownsRow.lt h b rfl).2

/-- What is said of fold at a node. -/
def FoldIH (ts : List Td) (pt : Nat → Nat) (base Sb mb gb clock : Nat) (L : List (Nk × Nat × Nat)) (Z : Nat → Zs) (H : Nat → Bool) (vb : Nat) (v : Int) (n : Nat) : Prop := ∀ (i : Nat) (w : World) (u : Int), i < n → i < ts.length → St base w Sb mb gb clock L Z H → base ≤ w.heap.size → w.cell? ⟨vb, 0, none⟩ = some (.int .i64 v) → 0 ≤ u → u + i ≤ 50000 →
  Calls Tryz.prog 86 #[.pointer (some ⟨pt i, 0, none⟩), .int .i64 u, .func (.func 87) #[] #[.pointer (some ⟨vb, 0, none⟩)], .func (.func 88) #[] #[]] w fun e w' => e = .returned (.int .i64 (usesN ts n i (v + u))) ∧ Below w.heap.size w w'

set_option maxRecDepth 20000 in
set_option maxHeartbeats 4000000 in
theorem fold_step {ts : List Td} {pt : Nat → Nat} {base Sb mb gb clock : Nat} {L : List (Nk × Nat × Nat)} {Z : Nat → Zs} {H : Nat → Bool} {vb : Nat} {v : Int} (ht : termB ts = true) (hr : Rd ts pt L Z ts.length) (n : Nat) (IH : Hid (FoldIH ts pt base Sb mb gb clock L Z H vb v n)) : FoldIH ts pt base Sb mb gb clock L Z H vb v (n + 1) := by
  intro i w u hin hi hs hbase av hu0 hu1
  have T := tiled_all ht i hi
  obtain ⟨⟨c, hc⟩, hz⟩ := hr i hi hi
  obtain ⟨lv, ls, nb, _⟩ := (hs.ents _ hc).node
  have nb : NbAt w (pt i) (tmL (keyOf pt ts[i]) lv (Z (pt i)) (H (pt i))) := nb
  rw [hz] at nb
  have hlo := lo_le ht i hi
  have HVR := hide (lo_var ht i hi)
  have HNM := hide (num_le ht i hi)
  have hU := usesN_succ ts n i (v + u) hi
  have hkl3 : ts[i].kids.length ≤ 3 := by have := tkids_le ts[i].k; have := T.arity; omega
  have HKD := hide (fun (j : Nat) (hj : j < ts[i].kids.length) => show (keyOf pt ts[i]).kid j = some (pt (ts[i].kids[j]).toNat) by rw [keyOf_kid pt ts[i] hkl3 j, List.getElem?_eq_getElem hj]; rfl)
  have HKI := hide T.kin
  have HAR := hide T.arity
  have HUB := hide (fun (j : Nat) (hj : j < ts[i].kids.length) (x : Int) => uses_bound ht n (ts[i].kids[j]).toNat x (by have := T.kin _ (List.getElem_mem hj); omega))
  have HSZ := hide (fun (j : Nat) (hj : j < ts[i].kids.length) => show szI ts (((ts[i].kids[j]).toNat : Nat) : Int) ≤ 20000 by
    have h1 := T.kin _ (List.getElem_mem hj)
    have h2 := sz_le ht (ts[i].kids[j]).toNat (by omega)
    have h3 := len_of ht
    omega)
  have HST := hide hs
  have HBS := hide hbase
  have HAV := hide av
  clear T hc hz hs hbase
  generalize ts[i] = x at *
  generalize zI (Zt ts) (i : Int) = z at *
  have HNB := hide nb
  have HPT : Hid (pt i = pt i) := rfl
  obtain ⟨A, hA⟩ : ∃ A, A = pt i := ⟨_, rfl⟩
  rw [← hA] at nb HNB ⊢
  clear hA HPT
  have hAl := nb.lt
  have a0 : w.cell? ⟨A, 0, none⟩ = some (.int .i64 x.k) := by rw [nb.cell 0 (by omega)]; rfl
  have a1 : w.cell? ⟨A, 1, none⟩ = some (.int .i64 x.n) := by rw [nb.cell 1 (by omega)]; rfl
  have a10 : w.cell? ⟨A, 10, none⟩ = some (.int .i64 z.lo) := by rw [nb.cell 10 (by omega)]; rfl
  have HKN := hide (known_any A vb x.k x.n z.lo u v w a0 a1 a10 av ⟨hu0, by omega⟩ HNM.out hlo)
  by_cases hk : knowB x.k x.n z.lo u v = true
  · have HE : Hid (usesN ts (n + 1) i (v + u) = knowN x.k x.n u v) := by
      show _ = _
      rw [hU]
      unfold knowB at hk
      unfold knowN
      by_cases h1 : x.k = 1 ∧ x.n - u = v
      · have := HVR.out h1.1
        rw [if_pos h1, if_neg (by omega), if_pos ⟨h1.1, by omega⟩]
      · rw [if_neg h1] at hk ⊢
        rw [if_pos (by have := of_decide_eq_true hk; omega)]
    rw [hk] at HKN
    generalize knowN x.k x.n u v = ans at *
    clear hk hU
    go_enter Tryz.func86, Tryz.ntmps86
    go_wp2_with fail
    refine HKN.out.mono ?_
    rintro e w1 ⟨rfl, hb1⟩
    have HB1 := hide hb1
    clear hb1
    go_wp2_with fail
    go_ret
    exact ⟨by rw [HE.out] <;> rfl, HB1.out⟩
  · have hk : knowB x.k x.n z.lo u v = false := by simpa using hk
    have HE : Hid (usesN ts (n + 1) i (v + u) = usesK (usesN ts n) x (v + u) x.kids.length) := by
      show _ = _
      rw [hU]
      unfold knowB at hk
      by_cases h1 : x.k = 1 ∧ x.n - u = v
      · rw [if_pos h1] at hk; cases hk
      · rw [if_neg h1] at hk
        rw [if_neg (by have := of_decide_eq_false hk; omega), if_neg (fun h => h1 ⟨h.1, by omega⟩)]
    rw [hk] at HKN
    generalize knowN x.k x.n u v = ans at *
    clear hk hU
    obtain ⟨f, hf⟩ : ∃ f : Nat → Int, f = fun q => usesN ts n (x.kids.getD q 0).toNat (v + u + bindN x.k q) := ⟨_, rfl⟩
    have HFS : Hid (∀ j (hj : j < x.kids.length), f j = usesN ts n (x.kids[j]).toNat (v + u + bindN x.k j)) := fun j hj => by rw [hf]; simp [List.getD, hj]
    have HE : Hid (usesN ts (n + 1) i (v + u) = upTo f x.kids.length) := by show _ = _; rw [HE.out, hf]; rfl
    have HFB : Hid (∀ j, j < x.kids.length → 0 ≤ f j ∧ f j ≤ 20000) := fun j hj => by
      rw [HFS.out j hj]
      have h1 := HUB.out j hj (v + u + bindN x.k j)
      have h2 := HSZ.out j hj
      omega
    clear hf HUB HSZ
    have hk0 : 0 ≤ tkidsN x.k := by have := HAR.out; omega
    have hk3' : tkidsN x.k ≤ 3 := tkids_le x.k
    have hkn : (tkidsN x.k).toNat = x.kids.length := by have := HAR.out; omega
    have HPT := hide (fun (W : World) (h : W.cell? ⟨A, 0, none⟩ = some (.int .i64 x.k)) => parts_any A x.k W h hk0 hk3')
    have HBI := hide (fun (W : World) (j : Nat) (h : W.cell? ⟨A, 0, none⟩ = some (.int .i64 x.k)) => binds_any A x.k j W h hk0 hk3')
    rw [hkn] at HPT
    have HBD := hide (fun q : Nat => show 0 ≤ bindN x.k q ∧ bindN x.k q ≤ 1 by unfold bindN; split <;> omega)
    clear hk0 hk3' hkn
    go_enter Tryz.func86, Tryz.ntmps86
    go_wp2_with fail
    refine HKN.out.mono ?_
    rintro e w1 ⟨rfl, hb1⟩
    obtain ⟨W2, hW2⟩ : ∃ W2, W2 = w1.alloc (.cells #[.int .i64 0, .int .i64 0, .int .i64 0] 133) := ⟨_, rfl⟩
    have hb2 : Below w.heap.size w W2 := by rw [hW2]; exact bel_trans hb1 (bel_alloc (Below.refl _ _) _)
    have HK2 : Hid (K3At W2 w1.heap.size (k3 f 0)) := by
      show K3At _ _ _
      rw [hW2]
      exact ⟨rfl, .inr ⟨w1.heap.size, 1, _, rfl, Nat.zero_le _, heap_alloc_new w1 _, Nat.le_refl _, by decide, rfl, rfl⟩⟩
    have HKG := hide hb1.size
    have c0 := keep_cell hb2 a0
    have HP := hide (HPT.out W2 c0)
    have HB2 := hide hb2
    clear hb1 hb2 HKN HPT
    have hA2 := lt_cell c0
    go_upto_region 5 with fail
    rw [← hW2]
    clear hW2
    generalize w1.heap.size = kb at *
    clear w1
    go_wp2_with fail
    refine HP.out.mono ?_
    rintro e w3 ⟨rfl, hb3⟩
    have HB3 := hide (bel_trans HB2.out hb3)
    have HK3 : Hid (K3At w3 kb (k3 f 0)) := row_keep hb3 HK2.out
    clear hb3 HP HK2 HB2 c0 hA2
    go_wp2_with fail
    go_loopw [26] (fun ii wr => ∃ (j : Nat), j ≤ x.kids.length ∧ ii = .int .i64 j ∧ Hid (K3At wr kb (k3 f j)) ∧ Hid (Below w.heap.size w wr)) (fun ii _ => x.kids.length - (intOf ii).toNat)
    case atStart => exact ⟨0, by omega, rfl, HK3, HB3⟩
    case round =>
      clear HK3 HB3
      obtain ⟨j, hj, rfl, HKJ, HBJ⟩ := hrel
      have hkl := HKJ.out.lt
      by_cases hlt : j < x.kids.length
      · have hlt' : (j : Int) < x.kids.length := by omega
        have HQ1 := hide (show j + 1 ≤ x.kids.length from hlt)
        have d0 := keep_cell HBJ.out a0
        have d5 := keep_cell HBJ.out (nb_kid HNB.out j (by omega))
        rw [HKD.out j hlt] at d5
        simp only [pv] at d5
        have hAr := lt_cell d5
        have r1 := HKI.out x.kids[j] (List.getElem_mem hlt)
        obtain ⟨bn0, bn1⟩ := HBD.out j
        have HCB := hide (HBI.out wr j d0)
        have HCF : Hid (∀ W, Below w.heap.size w W → Calls Tryz.prog 86 #[.pointer (some ⟨pt (x.kids[j]).toNat, 0, none⟩), .int .i64 (u + bindN x.k j), .func (.func 87) #[] #[.pointer (some ⟨vb, 0, none⟩)], .func (.func 88) #[] #[]] W fun e w' => e = .returned (.int .i64 (f j)) ∧ Below W.heap.size W w') := fun W hW => by
          have h := IH.out (x.kids[j]).toNat W (u + bindN x.k j) (by omega) (by omega) (HST.out.keep hW HBS.out) (Nat.le_trans HBS.out hW.size) (keep_cell hW HAV.out) (by omega) (by omega)
          rw [HFS.out j hlt, show v + u + bindN x.k j = v + (u + bindN x.k j) by omega]
          exact h
        have HNS := hide (k3_set f j (by omega))
        generalize pt (x.kids[j]).toNat = P1 at *
        generalize bindN x.k j = bn at *
        have hw1 : IntKind.i64.wrap (u + bn) = u + bn := by rw [IntKind.wrap_i64]; omega
        have hj3 : j < 3 := by omega
        clear r1
        go_wp2_with fail
        refine HCB.out.mono ?_
        rintro e w4 ⟨rfl, hb4⟩
        have HB4 := hide (bel_trans HBJ.out hb4)
        have HK4 : Hid (K3At w4 kb (k3 f j)) := row_keep hb4 HKJ.out
        clear hb4 HCB HKJ HBJ d0 d5 hkl hAr
        go_wp2_with fail
        refine (HCF.out w4 HB4.out).mono ?_
        rintro e w5 ⟨rfl, hb5⟩
        have HB5 := hide (bel_trans HB4.out hb5)
        have HK5 : Hid (K3At w5 kb (k3 f j)) := row_keep hb5 HK4.out
        clear hb5 HB4 HK4 HCF
        obtain ⟨ov, d3⟩ : ∃ ov, w5.cell? ⟨kb, j, none⟩ = some ov := by
          rw [HK5.out.cell j hj3]
          exact ⟨_, List.getElem?_eq_getElem (by show j < 3; omega)⟩
        have f3 := HK5.out.frozen j
        have hl5 := lt_cell d3
        have HNK := hide (HK5.out.set j (.int .i64 (f j)))
        rw [HNS.out] at HNK
        have HNB5 := hide (HB5.out.grown (grown_set w5 ⟨kb, j, none⟩ (.int .i64 (f j))) HB5.out.size (fun k hk => by have := Option.some.inj hk; have := HKG.out; simp at *; omega))
        go_wp2_with fail
        go_roundw
        case rel => exact ⟨j + 1, HQ1.out, by go_num, HNK, HNB5⟩
        case measure => have := HQ1.out; simp [intOf]; omega
      · have hlt' : ¬ (j : Int) < x.kids.length := by omega
        have e : j = x.kids.length := by omega
        subst e
        have b0 : wr.cell? ⟨kb, 0, none⟩ = some (.int .i64 (kv3 f x.kids.length 0)) := by rw [HKJ.out.cell 0 (by omega)]; rfl
        have b1 : wr.cell? ⟨kb, 1, none⟩ = some (.int .i64 (kv3 f x.kids.length 1)) := by rw [HKJ.out.cell 1 (by omega)]; rfl
        have b2 : wr.cell? ⟨kb, 2, none⟩ = some (.int .i64 (kv3 f x.kids.length 2)) := by rw [HKJ.out.cell 2 (by omega)]; rfl
        have HS3 := hide (k3_sum f x.kids.length hkl3)
        have hbd : ∀ q, 0 ≤ kv3 f x.kids.length q ∧ kv3 f x.kids.length q ≤ 100000 := fun q => by
          unfold kv3
          split
          · rename_i h; have := HFB.out q h; omega
          · omega
        have HJ := hide (joinU_any A (kv3 f x.kids.length 0) (kv3 f x.kids.length 1) (kv3 f x.kids.length 2) wr (hbd 0) (hbd 1) (hbd 2))
        rw [HS3.out] at HJ
        rw [← HE.out] at HJ
        clear hbd HS3
        generalize kv3 f x.kids.length 0 = r0 at *
        generalize kv3 f x.kids.length 1 = r1 at *
        generalize kv3 f x.kids.length 2 = r2 at *
        go_wp2_with fail
        refine HJ.out.mono ?_
        rintro e w6 ⟨rfl, hb6⟩
        have HB6 := hide (bel_trans HBJ.out hb6)
        clear hb6
        go_wp2_with fail
        go_ret
        exact ⟨rfl, HB6.out⟩
theorem fold_all {ts : List Td} {pt : Nat → Nat} {base Sb mb gb clock : Nat} {L : List (Nk × Nat × Nat)} {Z : Nat → Zs} {H : Nat → Bool} {vb : Nat} {v : Int} (ht : termB ts = true) (hr : Rd ts pt L Z ts.length) : ∀ n, FoldIH ts pt base Sb mb gb clock L Z H vb v n
  | 0 => fun i w u h => by omega
  | n + 1 => fold_step ht hr n (hide (fold_all ht hr n))
end Go.Proofs.YtjkkojefpecbfaaGreat
