/- The specification's trees, maybe too great: nodes that stand for trees; l3Under, l3With, l3Var. -/
import Derived.Test.YtbgibiongnhjoaaGreatTrK
import Derived.Test.YtbgibiongnhjoaaGreatFoA
namespace Go.Proofs.YtbgibiongnhjoaaGreat
open Go.ChangeShapes Go.WideShapes Go.ChangeAt Go.RowKit

/-- A node of the specification's stands for a tree, which may be too great; its rows lie in blocks that Q lets by. -/
def SpG (Q : Nat → Prop) (w : World) : Tt → Nat → Prop
  | .t0 h, p => FnAt Q w p (h.td []) [] (Tt.t0 h).zG
  | .t1 h a, p => ∃ pa, SpG Q w a pa ∧ FnAt Q w p (h.td []) [pa] (Tt.t1 h a).zG
  | .t2 h a b, p => ∃ pa pb, SpG Q w a pa ∧ SpG Q w b pb ∧ FnAt Q w p (h.td []) [pa, pb] (Tt.t2 h a b).zG
  | .t3 h a b c, p => ∃ pa pb pc, SpG Q w a pa ∧ SpG Q w b pb ∧ SpG Q w c pc ∧ FnAt Q w p (h.td []) [pa, pb, pc] (Tt.t3 h a b c).zG
theorem SpG.to {Q R : Nat → Prop} {w w' : World} (hc : Carry Q R w w') : ∀ {T : Tt} {p : Nat}, SpG Q w T p → SpG R w' T p
  | .t0 _, _, h => FnAt.to h hc
  | .t1 _ _, _, ⟨pa, h1, h⟩ => ⟨pa, h1.to hc, FnAt.to h hc⟩
  | .t2 _ _ _, _, ⟨pa, pb, h1, h2, h⟩ => ⟨pa, pb, h1.to hc, h2.to hc, FnAt.to h hc⟩
  | .t3 _ _ _ _, _, ⟨pa, pb, pc, h1, h2, h3, h⟩ => ⟨pa, pb, pc, h1.to hc, h2.to hc, h3.to hc, FnAt.to h hc⟩
theorem SpG.keep {Q : Nat → Prop} {w w' : World} {T : Tt} {p : Nat} (h : SpG Q w T p) (hb : Below w.heap.size w w') : SpG Q w' T p := h.to (Carry.below hb)
theorem SpG.weak {Q R : Nat → Prop} {w : World} {T : Tt} {p : Nat} (h : SpG Q w T p) (hq : ∀ b, b < w.heap.size → Q b → R b) : SpG R w T p :=
  h.to ⟨fun _ _ h => h, fun b hb hl => ⟨hq b hl hb, fun _ _ h => h⟩, fun _ _ h => h⟩
/-- A tree that is not too great. -/
theorem SpT.toG {Q : Nat → Prop} {w : World} : ∀ {T : Tt} {p : Nat}, T.all varP → T.cnt ≤ 20000 → SpT Q w T p → SpG Q w T p
  | .t0 h, p, hp, hc, hs => by
    have e := zG_eq (.t0 h) hp hc
    show FnAt Q w p (h.td []) [] (Tt.t0 h).zG
    rw [e]; exact hs
  | .t1 h a, p, hp, hc, ⟨pa, h1, hs⟩ => by
    have e := zG_eq (.t1 h a) hp hc
    simp only [Tt.cnt] at hc
    refine ⟨pa, h1.toG hp.2 (by omega), ?_⟩
    rw [e]; exact hs
  | .t2 h a b, p, hp, hc, ⟨pa, pb, h1, h2, hs⟩ => by
    have e := zG_eq (.t2 h a b) hp hc
    simp only [Tt.cnt] at hc
    refine ⟨pa, pb, h1.toG hp.2.1 (by omega), h2.toG hp.2.2 (by omega), ?_⟩
    rw [e]; exact hs
  | .t3 h a b c, p, hp, hc, ⟨pa, pb, pc, h1, h2, h3, hs⟩ => by
    have e := zG_eq (.t3 h a b c) hp hc
    simp only [Tt.cnt] at hc
    refine ⟨pa, pb, pc, h1.toG hp.2.1 (by omega), h2.toG hp.2.2.1 (by omega), h3.toG hp.2.2.2 (by omega), ?_⟩
    rw [e]; exact hs
theorem spg_open {Q : Nat → Prop} {w : World} {T : Tt} {p : Nat} (h : SpG Q w T p) : ∃ ps : List Nat, ps.length = T.kids.length ∧ FnAt Q w p (T.hd.td []) ps T.zG ∧ ∀ j (h1 : j < ps.length) (h2 : j < T.kids.length), SpG Q w T.kids[j] ps[j] := by
  cases T with
  | t0 hd => exact ⟨[], rfl, h, fun j h1 => by simp at h1⟩
  | t1 hd x =>
    obtain ⟨p, h1, h⟩ := h
    refine ⟨[p], rfl, h, fun j h2 h3 => ?_⟩
    have e : j = 0 := by simp at h2; omega
    subst e; exact h1
  | t2 hd x y =>
    obtain ⟨p, q, h1, h2, h⟩ := h
    refine ⟨[p, q], rfl, h, fun j h3 h4 => ?_⟩
    rcases (show j = 0 ∨ j = 1 by simp at h3; omega) with rfl | rfl
    · exact h1
    · exact h2
  | t3 hd x y z =>
    obtain ⟨p, q, r, h1, h2, h3, h⟩ := h
    refine ⟨[p, q, r], rfl, h, fun j h4 h5 => ?_⟩
    rcases (show j = 0 ∨ j = 1 ∨ j = 2 by simp at h4; omega) with rfl | rfl | rfl
    · exact h1
    · exact h2
    · exact h3
theorem mk_zG (h : Hd) (ts : List Tt) (h3 : ts.length ≤ 3) : (Tt.mk h ts).zG = zmkG h.k h.n (ts.map Tt.zG) := by
  match ts, h3 with
  | [], _ => rfl
  | [a], _ => rfl
  | [a, b], _ => rfl
  | [a, b, c], _ => rfl
theorem spg_mk {Q : Nat → Prop} {w : World} {h : Hd} {ts : List Tt} {ps : List Nat} {p : Nat} (h3 : ts.length ≤ 3) (hl : ps.length = ts.length) (hf : FnAt Q w p (h.td []) ps (Tt.mk h ts).zG) (hk : ∀ j (h1 : j < ps.length) (h2 : j < ts.length), SpG Q w ts[j] ps[j]) : SpG Q w (Tt.mk h ts) p := by
  match ts, ps, hl, h3 with
  | [], [], _, _ => exact hf
  | [a], [p], _, _ => exact ⟨p, hk 0 (by simp) (by simp), hf⟩
  | [a, a'], [p, p'], _, _ => exact ⟨p, p', hk 0 (by simp) (by simp), hk 1 (by simp) (by simp), hf⟩
  | [a, a', a''], [p, p', p''], _, _ => exact ⟨p, p', p'', hk 0 (by simp) (by simp), hk 1 (by simp) (by simp), hk 2 (by simp) (by simp), hf⟩
theorem spg_sz {Q : Nat → Prop} {w : World} {T : Tt} {p : Nat} (h : SpG Q w T p) : SzAt w p T.zG := by
  obtain ⟨ps, _, hf, _⟩ := spg_open h
  exact hf.sz
/-- Numbers of variables that are in range. -/
def numP (h : Hd) (_ : Nat) : Prop := h.k = 1 → 0 ≤ h.n ∧ h.n ≤ 1000000
theorem node_num (h : Hd) (c : Nat) (hp : nodeP h c) : numP h c := fun e => by
  have := num_of (td := h.td []) hp.2 e
  have h1 : 0 ≤ h.n ∧ h.n ≤ 20000 := this
  omega
theorem zsat_ok {z : Zs} (h : ZOkG z) : ZOkG (zsat z) := by
  unfold zsat
  refine ⟨?_, h.2⟩
  show 1 ≤ (if 20000 < z.sz then (20001 : Int) else z.sz)
  split
  · omega
  · exact h.1
theorem zmkG_ok (k n : Int) (zs : List Zs) (h : ∀ z ∈ zs, ZOkG z) (hn : k = 1 → 0 ≤ n ∧ n ≤ 1000000) : ZOkG (zmkG k n zs) := by
  unfold zmkG
  apply zsat_ok
  split
  · rename_i h1
    have := hn h1.1
    exact ⟨by show (1 : Int) ≤ 20001; omega, by show 0 ≤ n + 1; omega, by show n + 1 ≤ 1000001; omega⟩
  · have h1 := loP_boundsG k n zs h hn zs.length
    refine ⟨?_, h1.1, h1.2⟩
    show 1 ≤ 1 + sumZ zs
    have := sumZ_nonneg zs (fun z hz => (h z hz).1)
    omega
theorem zG_ok : ∀ T : Tt, T.all numP → ZOkG T.zG
  | .t0 h, hp => zmkG_ok _ _ _ (fun z hz => by simp at hz) hp
  | .t1 h a, hp => zmkG_ok _ _ _ (fun z hz => by simp at hz; subst hz; exact zG_ok a hp.2) hp.1
  | .t2 h a b, hp => zmkG_ok _ _ _ (fun z hz => by
      simp at hz
      rcases hz with rfl | rfl
      · exact zG_ok a hp.2.1
      · exact zG_ok b hp.2.2) hp.1
  | .t3 h a b c, hp => zmkG_ok _ _ _ (fun z hz => by
      simp at hz
      rcases hz with rfl | rfl | rfl
      · exact zG_ok a hp.2.1
      · exact zG_ok b hp.2.2.1
      · exact zG_ok c hp.2.2.2) hp.1
theorem zmkG_le (k n : Int) (zs : List Zs) : (zmkG k n zs).sz ≤ 20001 := by
  unfold zmkG zsat
  show (if 20000 < (if k = 1 ∧ 20000 < n then (⟨20001, n + 1, false⟩ : Zs) else zmk k n zs).sz then (20001 : Int) else (if k = 1 ∧ 20000 < n then (⟨20001, n + 1, false⟩ : Zs) else zmk k n zs).sz) ≤ 20001
  generalize (if k = 1 ∧ 20000 < n then (⟨20001, n + 1, false⟩ : Zs) else zmk k n zs).sz = z
  split <;> omega
theorem zG_le (T : Tt) : T.zG.sz ≤ 20001 := by cases T <;> exact zmkG_le _ _ _
theorem sumZ_bound : ∀ (l : List Zs), (∀ z ∈ l, z.sz ≤ 20001) → sumZ l ≤ 20001 * l.length
  | [], _ => by simp [sumZ]
  | z :: l, h => by
    have h1 := h z (by simp)
    have h2 := sumZ_bound l (fun x hx => h x (by simp [hx]))
    simp only [sumZ, List.length_cons]
    omega
/-- What l3Make answers for trees. -/
theorem make_tree {Q R : Nat → Prop} {w : World} {h : Hd} {ts : List Tt} {ps : List Nat} {lvv kdv : Value} (hl : ps.length = ts.length) (h3 : ts.length ≤ 3) (hlv : LevRowF R w lvv h.lv) (hk : PtrRowQ R w kdv ps) (hs : ∀ j (h1 : j < ps.length) (h2 : j < ts.length), SpG R w ts[j] ps[j]) (hn : ∀ t ∈ ts, t.all numP) (hh : numP h ts.length) (h1 : h.k = 1 → ts = []) (_ : Q = R) :
    Calls Tryz.prog 92 #[.int .i64 h.k, .int .i64 h.n, .int .i64 h.m, .string h.s, lvv, kdv] w fun e w' => e = .returned (ptrV w.heap.size) ∧ SpG R w' (Tt.mk h ts) w.heap.size ∧ Below w.heap.size w w' := by
  have hz : ∀ z ∈ ts.map Tt.zG, ZOkG z := fun z hz => by
    obtain ⟨t, ht, rfl⟩ := List.mem_map.1 hz
    exact zG_ok t (hn t ht)
  have hsum : 1 + sumZ (ts.map Tt.zG) ≤ 1000000 := by
    have := sumZ_bound (ts.map Tt.zG) (fun z hz => by obtain ⟨t, _, rfl⟩ := List.mem_map.1 hz; exact zG_le t)
    rw [List.length_map] at this
    have h4 : (20001 : Int) * (ts.length : Int) ≤ 60003 := by omega
    omega
  refine (l3MakeG_any h.k h.n h.m h.s lvv kdv h.lv.length ps (ts.map Tt.zG) w hlv.row hk.row (by simp; omega) (fun j q1 q2 => by
    rw [List.getElem_map]
    exact spg_sz (hs j q1 (by omega))) hz hsum hh (fun e => List.eq_nil_of_length_eq_zero (by rw [hl, h1 e]; rfl))).mono ?_
  rintro e w' ⟨rfl, ht, hb⟩
  refine ⟨rfl, spg_mk h3 hl ⟨lvv, kdv, ?_, ?_, hlv.keep hb⟩ (fun j q1 q2 => (hs j q1 q2).keep hb), hb⟩
  · rw [mk_zG h ts h3]
    exact ht.base (Nat.zero_le _)
  · exact hk.to (fun b hq _ => ⟨hq, fun o u hu => keep_cell hb hu⟩)
theorem levrow_nil (R : Nat → Prop) (w : World) : LevRowF R w (.slice none 0 0) [] := ⟨[], [], rfl, ⟨none, 0, rfl, Nat.le_refl _, by unfold maxLen; omega, fun h => by simp at h⟩, ⟨⟨rfl, fun j h => by simp at h⟩, fun u hu => by simp at hu⟩, ⟨rfl, fun q h => by simp at h⟩⟩
end Go.Proofs.YtbgibiongnhjoaaGreat
