/- The specification's trees, maybe too great: nodes that stand for trees; l3Under, l3With, l3Var. -/
import Derived.Test.YtjkkojefpecbfaaGreatTrI
import Derived.Test.YtjkkojefpecbfaaGreatFoA
namespace Go.Proofs.YtjkkojefpecbfaaGreat
open Go.ChangeShapes Go.WideShapes Go.ChangeAt Go.RowKit

/-- A node of the specification's stands for a tree, which may be too great; its rows lie in blocks that Q lets by. -/
def SpG (Q : Nat → Prop) (w : World) : Tt → Nat → Prop
  | .t0 h, p => FnAt Q w p (h.td []) [] (Tt.t0 h).zG
  | .t1 h a, p => ∃ pa, SpG Q w a pa ∧ FnAt Q w p (h.td []) [pa] (Tt.t1 h a).zG
  | .t2 h a b, p => ∃ pa pb, SpG Q w a pa ∧ SpG Q w b pb ∧ FnAt Q w p (h.td []) [pa, pb] (Tt.t2 h a b).zG
  | .t3 h a b c, p => ∃ pa pb pc, SpG Q w a pa ∧ SpG Q w b pb ∧ SpG Q w c pc ∧ FnAt Q w p (h.td []) [pa, pb, pc] (Tt.t3 h a b c).zG
theorem SpG.to {Q R : Nat → Prop} {w w' : World} (hc : Carry Q R w w') : ∀ {T : Tt} {p : Nat}, SpG Q w T p → SpG R w' T p
  | .t0 _, _, h => FnAt.to h hc
  | .t1 _ _, _, ⟨pa, h1, h⟩ => ⟨pa, h1.to hc, FnAt.to h hc⟩
  | .t2 _ _ _, _, ⟨pa, pb, h1, h2, h⟩ => ⟨pa, pb, h1.to hc, h2.to hc, FnAt.to h hc⟩
  | .t3 _ _ _ _, _, ⟨pa, pb, pc, h1, h2, h3, h⟩ => ⟨pa, pb, pc, h1.to hc, h2.to hc, h3.to hc, FnAt.to h hc⟩
theorem SpG.keep {Q : Nat → Prop} {w w' : World} {T : Tt} {p : Nat} (h : SpG Q w T p) (hb : Below w.heap.size w w') : SpG Q w' T p := h.to (Carry.below hb)
theorem SpG.weak {Q R : Nat → Prop} {w : World} {T : Tt} {p : Nat} (h : SpG Q w T p) (hq : ∀ b, b < w.heap.size → Q b → R b) : SpG R w T p :=
  h.to ⟨fun _ _ h => h, fun b hb hl => ⟨hq b hl hb, fun _ _ h => h⟩, fun _ _ h => h⟩
/-- A tree that is not too great. -/
theorem SpT.toG {Q : Nat → Prop} {w : World} : ∀ {T : Tt} {p : Nat}, T.all varP → T.cnt ≤ 20000 → SpT Q w T p → SpG Q w T p
  | .t0 h, p, hp, hc, hs => by
    have e := zG_eq (.t0 h) hp hc
    show FnAt Q w p (h.td []) [] (Tt.t0 h).zG
    rw [e]; exact hs
  | .t1 h a, p, hp, hc, ⟨pa, h1, hs⟩ => by
    have e := zG_eq (.t1 h a) hp hc
    simp only [Tt.cnt] at hc
    refine ⟨pa, h1.toG hp.2 (by omega), ?_⟩
    rw [e]; exact hs
  | .t2 h a b, p, hp, hc, ⟨pa, pb, h1, h2, hs⟩ => by
    have e := zG_eq (.t2 h a b) hp hc
    simp only [Tt.cnt] at hc
    refine ⟨pa, pb, h1.toG hp.2.1 (by omega), h2.toG hp.2.2 (by omega), ?_⟩
    rw [e]; exact hs
  | .t3 h a b c, p, hp, hc, ⟨pa, pb, pc, h1, h2, h3, hs⟩ => by
    have e := zG_eq (.t3 h a b c) hp hc
    simp only [Tt.cnt] at hc
    refine ⟨pa, pb, pc, h1.toG hp.2.1 (by omega), h2.toG hp.2.2.1 (by omega), h3.toG hp.2.2.2 (by omega), ?_⟩
    rw [e]; exact hs
theorem spg_open {Q : Nat → Prop} {w : World} {T : Tt} {p : Nat} (h : SpG Q w T p) : ∃ ps : List Nat, ps.length = T.kids.length ∧ FnAt Q w p (T.hd.td []) ps T.zG ∧ ∀ j (h1 : j < ps.length) (h2 : j < T.kids.length), SpG Q w T.kids[j] ps[j] := by
  cases T with
  | t0 hd => exact ⟨[], rfl, h, fun j h1 => by simp at h1⟩
  | t1 hd x =>
    obtain ⟨p, h1, h⟩ := h
    refine ⟨[p], rfl, h, fun j h2 h3 => ?_⟩
    have e : j = 0 := by simp at h2; omega
    subst e; exact h1
  | t2 hd x y =>
    obtain ⟨p, q, h1, h2, h⟩ := h
    refine ⟨[p, q], rfl, h, fun j h3 h4 => ?_⟩
    rcases (show j = 0 ∨ j = 1 by simp at h3; omega) with rfl | rfl
    · exact h1
    · exact h2
  | t3 hd x y z =>
    obtain ⟨p, q, r, h1, h2, h3, h⟩ := h
    refine ⟨[p, q, r], rfl, h, fun j h4 h5 => ?_⟩
    rcases (show j = 0 ∨ j = 1 ∨ j = 2 by simp at h4; omega) with rfl | rfl | rfl
    · exact h1
    · exact h2
    · exact h3
theorem mk_zG (h : Hd) (ts : List Tt) (h3 : ts.length ≤ 3) : (Tt.mk h ts).zG = zmkG h.k h.n (ts.map Tt.zG) := by
  match ts, h3 with
  | [], _ => rfl
  | [a], _ => rfl
  | [a, b], _ => rfl
  | [a, b, c], _ => rfl
theorem spg_mk {Q : Nat → Prop} {w : World} {h : Hd} {ts : List Tt} {ps : List Nat} {p : Nat} (h3 : ts.length ≤ 3) (hl : ps.length = ts.length) (hf : FnAt Q w p (h.td []) ps (Tt.mk h ts).zG) (hk : ∀ j (h1 : j < ps.length) (h2 : j < ts.length), SpG Q w ts[j] ps[j]) : SpG Q w (Tt.mk h ts) p := by
  match ts, ps, hl, h3 with
  | [], [], _, _ => exact hf
  | [a], [p], _, _ => exact ⟨p, hk 0 (by simp) (by simp), hf⟩
  | [a, a'], [p, p'], _, _ => exact ⟨p, p', hk 0 (by simp) (by simp), hk 1 (by simp) (by simp), hf⟩
  | [a, a', a''], [p, p', p''], _, _ => exact ⟨p, p', p'', hk 0 (by simp) (by simp), hk 1 (by simp) (by simp), hk 2 (by simp) (by simp), hf⟩
theorem spg_sz {Q : Nat → Prop} {w : World} {T : Tt} {p : Nat} (h : SpG Q w T p) : SzAt w p T.zG := by
  obtain ⟨ps, _, hf, _⟩ := spg_open h
  exact hf.sz
/-- Numbers of variables that are in range. -/
def numP (h : Hd) (_ : Nat) : Prop := h.k = 1 → 0 ≤ h.n ∧ h.n ≤ 1000000
theorem node_num (h : Hd) (c : Nat) (hp : nodeP h c) : numP h c := fun e => by
  have := num_of (td := h.td []) hp.2 e
  have h1 : 0 ≤ h.n ∧ h.n ≤ 20000 := this
  omega
theorem zsat_ok {z : Zs} (h : ZOkG z) : ZOkG (zsat z) := by
  unfold zsat
  refine ⟨?_, h.2⟩
  show 1 ≤ (if 20000 < z.sz then (20001 : Int) else z.sz)
  split
  · omega
  · exact h.1
theorem zmkG_ok (k n : Int) (zs : List Zs) (h : ∀ z ∈ zs, ZOkG z) (hn : k = 1 → 0 ≤ n ∧ n ≤ 1000000) : ZOkG (zmkG k n zs) := by
  unfold zmkG
  apply zsat_ok
  split
  · rename_i h1
    have := hn h1.1
    exact ⟨by show (1 : Int) ≤ 20001; omega, by show 0 ≤ n + 1; omega, by show n + 1 ≤ 1000001; omega⟩
  · have h1 := loP_boundsG k n zs h hn zs.length
    refine ⟨?_, h1.1, h1.2⟩
    show 1 ≤ 1 + sumZ zs
    have := sumZ_nonneg zs (fun z hz => (h z hz).1)
    omega
theorem zG_ok : ∀ T : Tt, T.all numP → ZOkG T.zG
  | .t0 h, hp => zmkG_ok _ _ _ (fun z hz => by simp at hz) hp
  | .t1 h a, hp => zmkG_ok _ _ _ (fun z hz => by simp at hz; subst hz; exact zG_ok a hp.2) hp.1
  | .t2 h a b, hp => zmkG_ok _ _ _ (fun z hz => by
      simp at hz
      rcases hz with rfl | rfl
      · exact zG_ok a hp.2.1
      · exact zG_ok b hp.2.2) hp.1
  | .t3 h a b c, hp => zmkG_ok _ _ _ (fun z hz => by
      simp at hz
      rcases hz with rfl | rfl | rfl
      · exact zG_ok a hp.2.1
      · exact zG_ok b hp.2.2.1
      · exact zG_ok c hp.2.2.2) hp.1
theorem zmkG_le (k n : Int) (zs : List Zs) : (zmkG k n zs).sz ≤ 20001 := by
  unfold zmkG zsat
  show (if 20000 < (if k = 1 ∧ 20000 < n then (⟨20001, n + 1, false⟩ : Zs) else zmk k n zs).sz then (20001 : Int) else (if k = 1 ∧ 20000 < n then (⟨20001, n + 1, false⟩ : Zs) else zmk k n zs).sz) ≤ 20001
  generalize (if k = 1 ∧ 20000 < n then (⟨20001, n + 1, false⟩ : Zs) else zmk k n zs).sz = z
  split <;> omega
theorem zG_le (T : Tt) : T.zG.sz ≤ 20001 := by cases T <;> exact zmkG_le _ _ _
theorem sumZ_bound : ∀ (l : List Zs), (∀ z ∈ l, z.sz ≤ 20001) → sumZ l ≤ 20001 * l.length
  | [], _ => by simp [sumZ]
  | z :: l, h => by
    have h1 := h z (by simp)
    have h2 := sumZ_bound l (fun x hx => h x (by simp [hx]))
    simp only [sumZ, List.length_cons]
    omega
set_option maxRecDepth 20000 in
set_option maxHeartbeats 4000000 in
theorem l3Under_any (A : Nat) (k : Int) (ka : Option Addr) (kn kc q : Nat) (w : World) (a0 : w.cell? ⟨A, 0, none⟩ = some (.int .i64 k)) (a5 : w.cell? ⟨A, 5, none⟩ = some (.slice ka kn kc)) (hk : (kn : Int) = tkidsN k) :
    Calls Tryz.prog 108 #[.pointer (some ⟨A, 0, none⟩), .int .i64 q] w fun e w' => e = .returned (.int .i64 (bindN k q)) ∧ Below w.heap.size w w' := by
  have HB := hide (fun W => l3Binds_any k W)
  have hAl := lt_cell a0
  have hk3 : kn ≤ 3 := by have := tkids_le k; omega
  cases hb : bindsB k
  · have HE : Hid (bindN k q = 0) := by show bindN k q = 0; unfold bindN; rw [if_neg (by simp [hb])]
    rw [hb] at HB
    go_enter Tryz.func108, Tryz.ntmps108
    go_wp2_with (go_at_call 138; refine (HB.out _).mono ?_; rintro e w1 ⟨rfl, hw⟩; have hw := hw.symm; subst hw)
    go_ret
    exact ⟨by rw [HE.out] <;> rfl, Below.refl _ _⟩
  · rw [hb] at HB
    by_cases he : (q : Int) = kn - 1
    · have HE : Hid (bindN k q = 1) := by show bindN k q = 1; unfold bindN; rw [if_pos ⟨hb, by omega⟩]
      have qe : ((q : Int) == (kn : Int) - 1) = true := by simp [he]
      clear he hk
      go_enter Tryz.func108, Tryz.ntmps108
      go_wp2_with (go_at_call 138; refine (HB.out _).mono ?_; rintro e w1 ⟨rfl, hw⟩; have hw := hw.symm; subst hw)
      go_ret
      exact ⟨by rw [HE.out] <;> rfl, Below.refl _ _⟩
    · have HE : Hid (bindN k q = 0) := by show bindN k q = 0; unfold bindN; rw [if_neg (fun h => he (by omega))]
      have qe : ((q : Int) == (kn : Int) - 1) = false := by simp [he]
      clear he hk
      go_enter Tryz.func108, Tryz.ntmps108
      go_wp2_with (go_at_call 138; refine (HB.out _).mono ?_; rintro e w1 ⟨rfl, hw⟩; have hw := hw.symm; subst hw)
      go_ret
      exact ⟨by rw [HE.out] <;> rfl, Below.refl _ _⟩

/-- What l3Make answers for trees. -/
theorem make_tree {Q R : Nat → Prop} {w : World} {h : Hd} {ts : List Tt} {ps : List Nat} {lvv kdv : Value} (hl : ps.length = ts.length) (h3 : ts.length ≤ 3) (hlv : LevRowF R w lvv h.lv) (hk : PtrRowQ R w kdv ps) (hs : ∀ j (h1 : j < ps.length) (h2 : j < ts.length), SpG R w ts[j] ps[j]) (hn : ∀ t ∈ ts, t.all numP) (hh : numP h ts.length) (h1 : h.k = 1 → ts = []) (_ : Q = R) :
    Calls Tryz.prog 92 #[.int .i64 h.k, .int .i64 h.n, .int .i64 h.m, .string h.s, lvv, kdv] w fun e w' => e = .returned (ptrV w.heap.size) ∧ SpG R w' (Tt.mk h ts) w.heap.size ∧ Below w.heap.size w w' := by
  have hz : ∀ z ∈ ts.map Tt.zG, ZOkG z := fun z hz => by
    obtain ⟨t, ht, rfl⟩ := List.mem_map.1 hz
    exact zG_ok t (hn t ht)
  have hsum : 1 + sumZ (ts.map Tt.zG) ≤ 1000000 := by
    have := sumZ_bound (ts.map Tt.zG) (fun z hz => by obtain ⟨t, _, rfl⟩ := List.mem_map.1 hz; exact zG_le t)
    rw [List.length_map] at this
    have h4 : (20001 : Int) * (ts.length : Int) ≤ 60003 := by omega
    omega
  refine (l3MakeG_any h.k h.n h.m h.s lvv kdv h.lv.length ps (ts.map Tt.zG) w hlv.row hk.row (by simp; omega) (fun j q1 q2 => by
    rw [List.getElem_map]
    exact spg_sz (hs j q1 (by omega))) hz hsum hh (fun e => List.eq_nil_of_length_eq_zero (by rw [hl, h1 e]; rfl))).mono ?_
  rintro e w' ⟨rfl, ht, hb⟩
  refine ⟨rfl, spg_mk h3 hl ⟨lvv, kdv, ?_, ?_, hlv.keep hb⟩ (fun j q1 q2 => (hs j q1 q2).keep hb), hb⟩
  · rw [mk_zG h ts h3]
    exact ht.base (Nat.zero_le _)
  · exact hk.to (fun b hq _ => ⟨hq, fun o u hu => keep_cell hb hu⟩)
theorem levrow_nil (R : Nat → Prop) (w : World) : LevRowF R w (.slice none 0 0) [] := ⟨[], [], rfl, ⟨none, 0, rfl, Nat.le_refl _, by unfold maxLen; omega, fun h => by simp at h⟩, ⟨⟨rfl, fun j h => by simp at h⟩, fun u hu => by simp at hu⟩, ⟨rfl, fun q h => by simp at h⟩⟩
theorem ptrrow_nil (R : Nat → Prop) (w : World) : PtrRowQ R w (.slice none 0 0) [] := ⟨none, 0, rfl, Nat.le_refl _, by unfold maxLen; omega, fun h => by simp at h⟩
set_option maxHeartbeats 1000000 in
theorem l3Var_any (R : Nat → Prop) (n : Int) (w : World) (hn : 0 ≤ n ∧ n ≤ 1000000) : Calls Tryz.prog 84 #[.int .i64 n] w fun e w' => ∃ p, e = .returned (ptrV p) ∧ SpG R w' (varT n) p ∧ Below w.heap.size w w' := by
  have HM := hide (make_tree (Q := R) (R := R) (h := ⟨1, n, 0, ⟨#[]⟩, []⟩) (ts := []) (ps := []) (lvv := .slice none 0 0) (kdv := .slice none 0 0) (w := w) rfl (by simp) (levrow_nil R w) (ptrrow_nil R w) (fun j h => by simp at h) (fun t ht => by simp at ht) (fun _ => hn) (fun _ => rfl) rfl)
  have HM : Hid (Calls Tryz.prog 92 #[.int .i64 1, .int .i64 n, .int .i64 0, .string ⟨#[]⟩, .slice none 0 0, .slice none 0 0] w fun e w' => e = .returned (ptrV w.heap.size) ∧ SpG R w' (varT n) w.heap.size ∧ Below w.heap.size w w') := HM.out
  go_enter Tryz.func84, Tryz.ntmps84
  go_wp2_with fail
  refine HM.out.mono ?_
  rintro e w1 ⟨rfl, h1, h2⟩
  have H1 := hide h1
  have H2 := hide h2
  clear h1 h2
  unfold ptrV
  go_wp2_with fail
  go_ret
  exact ⟨w.heap.size, rfl, H1.out, H2.out⟩
end Go.Proofs.YtjkkojefpecbfaaGreat

/- What the specification's l3With answers. -/
namespace Go.Proofs.YtjkkojefpecbfaaGreat
open Go.ChangeShapes Go.WideShapes Go.ChangeAt Go.RowKit

set_option maxRecDepth 20000 in
set_option maxHeartbeats 4000000 in
theorem l3With_any (R : Nat → Prop) (T : Tt) (p : Nat) (ts : List Tt) (ps : List Nat) (kdv : Value) (w : World) (hT : SpG R w T p) (hP : numP T.hd T.kids.length) (hl : ps.length = ts.length) (h3 : ts.length ≤ 3) (hk : PtrRowQ R w kdv ps) (hs : ∀ j (h1 : j < ps.length) (h2 : j < ts.length), SpG R w ts[j] ps[j]) (hn : ∀ t ∈ ts, t.all numP) (h1 : T.hd.k = 1 → ts = []) :
    Calls Tryz.prog 109 #[.pointer (some ⟨p, 0, none⟩), kdv] w fun e w' => ∃ p', e = .returned (ptrV p') ∧ SpG R w' (Tt.mk T.hd ts) p' ∧ Below w.heap.size w w' := by
  obtain ⟨qs, _, ⟨lvv, kv, tn, _, hlv⟩, _⟩ := spg_open hT
  have tn : TnAt 0 w p (tnL T.hd.k T.hd.n T.hd.m T.hd.s lvv kv T.zG) := tn
  have hlv : LevRowF R w lvv T.hd.lv := hlv
  have HM := hide (fun (V : World) (hb : Below w.heap.size w V) => make_tree (Q := R) (R := R) (h := T.hd) (ts := ts) (ps := ps) (lvv := lvv) (kdv := kdv) (w := V) hl h3 (hlv.keep hb) (hk.to (fun b hq _ => ⟨hq, fun o u hu => keep_cell hb hu⟩)) (fun j q1 q2 => (hs j q1 q2).keep hb) hn hP h1 rfl)
  obtain ⟨la, lc, lps, rfl⟩ : ∃ la lc lps, lvv = .slice la lps lc := by obtain ⟨ps, us, e1, ⟨a, cap, rfl, _⟩, _⟩ := hlv; exact ⟨_, _, _, rfl⟩
  obtain ⟨ka, kc, rfl⟩ : ∃ ka kc, kdv = .slice ka ps.length kc := by obtain ⟨a, cap, rfl, _⟩ := hk; exact ⟨_, _, rfl⟩
  have a0 : w.cell? ⟨p, 0, none⟩ = some (.int .i64 T.hd.k) := by rw [World.ownsRow.cellAt tn 0 (by omega)]; rfl
  have a1 : w.cell? ⟨p, 1, none⟩ = some (.int .i64 T.hd.n) := by rw [World.ownsRow.cellAt tn 1 (by omega)]; rfl
  have a2 : w.cell? ⟨p, 2, none⟩ = some (.int .i64 T.hd.m) := by rw [World.ownsRow.cellAt tn 2 (by omega)]; rfl
  have a3 : w.cell? ⟨p, 3, none⟩ = some (.string T.hd.s) := by rw [World.ownsRow.cellAt tn 3 (by omega)]; rfl
  have a4 : w.cell? ⟨p, 4, none⟩ = some (.slice la lps lc) := by rw [World.ownsRow.cellAt tn 4 (by omega)]; rfl
  have hpl := lt_cell a0
  have HG := hide (fun (wx : World) (h : Below w.heap.size w wx) => And.intro (keep_cell h a0) (And.intro (keep_cell h a1) (And.intro (keep_cell h a2) (And.intro (keep_cell h a3) (keep_cell h a4)))))
  have hS0 : (fun w' : World => Below w.heap.size w w') w.drew := (Below.refl _ _).drew
  have HD := hide hS0
  clear tn hlv hT hs hn hk hl h1 hP a0 a1 a2 a3 a4
  go_enter Tryz.func109, Tryz.ntmps109
  go_wp2_with fail
  refine anyE_region (L := 22) (S := fun w' : World => Below w.heap.size w w') (by kernel_rfl) ?_
  refine anyE_take 0 (v := ?v1) rfl (by kernel_rfl) (by kernel_rfl) (by kernel_rfl) (by kernel_rfl) (fun _ _ _ h => h) (by rfl) ?hy1 hS0 ?rest1
  case hy1 =>
    intro wx hx
    obtain ⟨m0, m1, m2, m3, m4⟩ := HG.out wx hx
    go_simp
    try rfl
  case rest1 =>
  intro K hK
  go_simp
  refine hK.out _ ?_
  clear hK K
  refine anyE_take 1 (v := ?v2) rfl (by kernel_rfl) (by kernel_rfl) (by kernel_rfl) (by kernel_rfl) (fun _ _ _ h => h) (by rfl) ?hy2 hS0 ?rest2
  case hy2 =>
    intro wx hx
    obtain ⟨m0, m1, m2, m3, m4⟩ := HG.out wx hx
    go_simp
    try rfl
  case rest2 =>
  intro K hK
  go_simp
  refine hK.out _ ?_
  clear hK K
  refine anyE_take 2 (v := ?v3) rfl (by kernel_rfl) (by kernel_rfl) (by kernel_rfl) (by kernel_rfl) (fun _ _ _ h => h) (by rfl) ?hy3 hS0 ?rest3
  case hy3 =>
    intro wx hx
    obtain ⟨m0, m1, m2, m3, m4⟩ := HG.out wx hx
    go_simp
    try rfl
  case rest3 =>
  intro K hK
  go_simp
  refine hK.out _ ?_
  clear hK K
  refine anyE_take 3 (v := ?v4) rfl (by kernel_rfl) (by kernel_rfl) (by kernel_rfl) (by kernel_rfl) (fun _ _ _ h => h) (by rfl) ?hy4 hS0 ?rest4
  case hy4 =>
    intro wx hx
    obtain ⟨m0, m1, m2, m3, m4⟩ := HG.out wx hx
    go_simp
    try rfl
  case rest4 =>
  intro K hK
  go_simp
  refine hK.out _ ?_
  clear hK K
  refine anyE_take 4 (v := ?v5) rfl (by kernel_rfl) (by kernel_rfl) (by kernel_rfl) (by kernel_rfl) (fun _ _ _ h => h) (by rfl) ?hy5 hS0 ?rest5
  case hy5 =>
    intro wx hx
    obtain ⟨m0, m1, m2, m3, m4⟩ := HG.out wx hx
    go_simp
    try rfl
  case rest5 =>
  intro K hK
  go_simp
  refine hK.out _ ?_
  clear hK K
  refine anyE_take 5 (v := ?v6) rfl (by kernel_rfl) (by kernel_rfl) (by kernel_rfl) (by kernel_rfl) (fun _ _ _ h => h) (by rfl) ?hy6 hS0 ?rest6
  case hy6 =>
    intro wx hx
    obtain ⟨m0, m1, m2, m3, m4⟩ := HG.out wx hx
    go_simp
    try rfl
  case rest6 =>
  intro K hK
  go_simp
  refine hK.out _ ?_
  clear hK K
  refine anyE_take 6 (v := ?v7) rfl (by kernel_rfl) (by kernel_rfl) (by kernel_rfl) (by kernel_rfl) (fun _ _ _ h => h) (by rfl) ?hy7 hS0 ?rest7
  case hy7 =>
    intro wx hx
    obtain ⟨m0, m1, m2, m3, m4⟩ := HG.out wx hx
    go_simp
    try rfl
  case rest7 =>
  intro K hK
  go_simp
  refine hK.out _ ?_
  clear hK K
  refine anyE_take 7 (v := ?v8) rfl (by kernel_rfl) (by kernel_rfl) (by kernel_rfl) (by kernel_rfl) (fun _ _ _ h => h) (by rfl) ?hy8 hS0 ?rest8
  case hy8 =>
    intro wx hx
    obtain ⟨m0, m1, m2, m3, m4⟩ := HG.out wx hx
    go_simp
    try rfl
  case rest8 =>
  intro K hK
  go_simp
  refine hK.out _ ?_
  clear hK K
  refine anyE_take 8 (v := ?v9) rfl (by kernel_rfl) (by kernel_rfl) (by kernel_rfl) (by kernel_rfl) (fun _ _ _ h => h) (by rfl) ?hy9 hS0 ?rest9
  case hy9 =>
    intro wx hx
    obtain ⟨m0, m1, m2, m3, m4⟩ := HG.out wx hx
    go_simp
    try rfl
  case rest9 =>
  intro K hK
  go_simp
  refine hK.out _ ?_
  clear hK K
  refine anyE_take 9 (v := ?v10) rfl (by kernel_rfl) (by kernel_rfl) (by kernel_rfl) (by kernel_rfl) (fun _ _ _ h => h) (by rfl) ?hy10 hS0 ?rest10
  case hy10 =>
    intro wx hx
    obtain ⟨m0, m1, m2, m3, m4⟩ := HG.out wx hx
    go_simp
    try rfl
  case rest10 =>
  intro K hK
  go_simp
  refine hK.out _ ?_
  clear hK K
  refine anyE_take 10 (v := ?v11) rfl (by kernel_rfl) (by kernel_rfl) (by kernel_rfl) (by kernel_rfl) (fun _ _ _ h => h) (by rfl) ?hy11 hS0 ?rest11
  case hy11 =>
    intro wx hx
    obtain ⟨m0, m1, m2, m3, m4⟩ := HG.out wx hx
    go_simp
    try rfl
  case rest11 =>
  intro K hK
  go_simp
  refine hK.out _ ?_
  clear hK K
  refine anyE_take 11 (v := ?v12) rfl (by kernel_rfl) (by kernel_rfl) (by kernel_rfl) (by kernel_rfl) (fun _ _ _ h => h) (by rfl) ?hy12 hS0 ?rest12
  case hy12 =>
    intro wx hx
    obtain ⟨m0, m1, m2, m3, m4⟩ := HG.out wx hx
    go_simp
    try rfl
  case rest12 =>
  intro K hK
  go_simp
  refine hK.out _ ?_
  clear hK K
  refine anyE_take 12 (v := ?v13) rfl (by kernel_rfl) (by kernel_rfl) (by kernel_rfl) (by kernel_rfl) (fun _ _ _ h => h) (by rfl) ?hy13 hS0 ?rest13
  case hy13 =>
    intro wx hx
    obtain ⟨m0, m1, m2, m3, m4⟩ := HG.out wx hx
    go_simp
    try rfl
  case rest13 =>
  intro K hK
  go_simp
  refine hK.out _ ?_
  clear hK K
  refine anyE_take 13 (v := ?v14) rfl (by kernel_rfl) (by kernel_rfl) (by kernel_rfl) (by kernel_rfl) (fun _ _ _ h => h) (by rfl) ?hy14 hS0 ?rest14
  case hy14 =>
    intro wx hx
    obtain ⟨m0, m1, m2, m3, m4⟩ := HG.out wx hx
    go_simp
    try rfl
  case rest14 =>
  intro K hK
  go_simp
  refine hK.out _ ?_
  clear hK K
  refine anyE_take 14 (v := ?v15) rfl (by kernel_rfl) (by kernel_rfl) (by kernel_rfl) (by kernel_rfl) (fun _ _ _ h => h) (by rfl) ?hy15 hS0 ?rest15
  case hy15 =>
    intro wx hx
    obtain ⟨m0, m1, m2, m3, m4⟩ := HG.out wx hx
    go_simp
    try rfl
  case rest15 =>
  intro K hK
  go_simp
  refine hK.out _ ?_
  clear hK K
  refine anyE_take 15 (v := ?v16) rfl (by kernel_rfl) (by kernel_rfl) (by kernel_rfl) (by kernel_rfl) (fun _ _ _ h => h) (by rfl) ?hy16 hS0 ?rest16
  case hy16 =>
    intro wx hx
    obtain ⟨m0, m1, m2, m3, m4⟩ := HG.out wx hx
    go_simp
    try rfl
  case rest16 =>
  intro K hK
  go_simp
  refine hK.out _ ?_
  clear hK K
  refine anyE_take 16 (v := ?v17) rfl (by kernel_rfl) (by kernel_rfl) (by kernel_rfl) (by kernel_rfl) (fun _ _ _ h => h) (by rfl) ?hy17 hS0 ?rest17
  case hy17 =>
    intro wx hx
    obtain ⟨m0, m1, m2, m3, m4⟩ := HG.out wx hx
    go_simp
    try rfl
  case rest17 =>
  intro K hK
  go_simp
  refine hK.out _ ?_
  clear hK K
  refine anyE_take 17 (v := ?v18) rfl (by kernel_rfl) (by kernel_rfl) (by kernel_rfl) (by kernel_rfl) (fun _ _ _ h => h) (by rfl) ?hy18 hS0 ?rest18
  case hy18 =>
    intro wx hx
    obtain ⟨m0, m1, m2, m3, m4⟩ := HG.out wx hx
    go_simp
    try rfl
  case rest18 =>
  intro K hK
  go_simp
  refine hK.out _ ?_
  clear hK K
  refine anyE_take 18 (v := ?v19) rfl (by kernel_rfl) (by kernel_rfl) (by kernel_rfl) (by kernel_rfl) (fun _ _ _ h => h) (by rfl) ?hy19 hS0 ?rest19
  case hy19 =>
    intro wx hx
    obtain ⟨m0, m1, m2, m3, m4⟩ := HG.out wx hx
    go_simp
    try rfl
  case rest19 =>
  intro K hK
  go_simp
  refine hK.out _ ?_
  clear hK K
  refine anyE_take 19 (v := ?v20) rfl (by kernel_rfl) (by kernel_rfl) (by kernel_rfl) (by kernel_rfl) (fun _ _ _ h => h) (by rfl) ?hy20 hS0 ?rest20
  case hy20 =>
    intro wx hx
    obtain ⟨m0, m1, m2, m3, m4⟩ := HG.out wx hx
    go_simp
    try rfl
  case rest20 =>
  intro K hK
  go_simp
  refine hK.out _ ?_
  clear hK K
  refine anyE_take 20 (v := ?v21) rfl (by kernel_rfl) (by kernel_rfl) (by kernel_rfl) (by kernel_rfl) (fun _ _ _ h => h) (by rfl) ?hy21 hS0 ?rest21
  case hy21 =>
    intro wx hx
    obtain ⟨m0, m1, m2, m3, m4⟩ := HG.out wx hx
    go_simp
    try rfl
  case rest21 =>
  intro K hK
  go_simp
  refine hK.out _ ?_
  clear hK K
  refine anyE_one 21 (by kernel_rfl) rfl (fun K hK => ?_)
  go_simp

  refine (HM.out w.drew HD.out).mono ?_
  rintro e w1 ⟨rfl, g1, g2⟩
  have H1 := hide g1
  have H2 : Below w.heap.size w w1 := HD.out.trans g2
  have HH2 := hide H2
  clear g1 g2
  refine hK.out _ _ (fun _ => H2) ?_
  clear hK K H2
  refine anyE_one 22 (by kernel_rfl) rfl (fun K hK => ?_)
  go_simp
  refine hK.out _ _ (fun h => absurd rfl h) ?_
  clear hK K
  refine anyE_done (by kernel_rfl) ?_ _
  go_wp2_with fail
  go_ret
  exact ⟨w.heap.size, rfl, H1.out, HH2.out⟩
end Go.Proofs.YtjkkojefpecbfaaGreat
