/- The program's fold over nodes, kid by kid; which nodes of the store stand for which trees. No program is walked here. -/
import Derived.Test.YtjkkojefpecbfaaGreatTrI
import Derived.Test.YtjkkojefpecbfaaGreatStX
namespace Go.Proofs.YtjkkojefpecbfaaGreat
open Go.ChangeShapes Go.WideShapes Go.ChangeAt Go.RowKit

/-- Kids that were made anew, put together. -/
def joinN (h : Hd) : List (Option Tt) → Option Tt
  | [] => sizedT (.t0 h)
  | [a] => join1 h a
  | [a, b] => join2 h a b
  | a :: b :: c :: _ => join3 h a b c
/-- The first kids made anew. -/
def chgJ {S : Type} (know : Tt → Int → S → Option (Option Tt) × S) (T : Tt) (u : Int) (s : S) : Nat → List (Option Tt) × S
  | 0 => ([], s)
  | j + 1 => match T.kids[j]? with
    | some a => ((chgJ know T u s j).1 ++ [(chgS know a (u + bindN T.hd.k j) (chgJ know T u s j).2).1], (chgS know a (u + bindN T.hd.k j) (chgJ know T u s j).2).2)
    | none => chgJ know T u s j
theorem chgJ_len {S : Type} (know : Tt → Int → S → Option (Option Tt) × S) (T : Tt) (u : Int) (s : S) : ∀ j, j ≤ T.kids.length → (chgJ know T u s j).1.length = j
  | 0, _ => rfl
  | j + 1, h => by
    have e : T.kids[j]? = some (T.kids[j]'(by omega)) := List.getElem?_eq_getElem (by omega)
    simp only [chgJ, e, List.length_append, List.length_cons, List.length_nil]
    rw [chgJ_len know T u s j (by omega)]
theorem chg_known {S : Type} (know : Tt → Int → S → Option (Option Tt) × S) (T : Tt) (u : Int) (s : S) {r : Option Tt} {s1 : S} (h : know T u s = (some r, s1)) : chgS know T u s = (r, s1) := by
  cases T <;> (unfold chgS; rw [h])
theorem chg_new {S : Type} (know : Tt → Int → S → Option (Option Tt) × S) (T : Tt) (u : Int) (s : S) {s1 : S} (h : know T u s = (none, s1)) : chgS know T u s = (joinN T.hd (chgJ know T u s1 T.kids.length).1, (chgJ know T u s1 T.kids.length).2) := by
  cases T with
  | t0 hd => unfold chgS; rw [h]; rfl
  | t1 hd a => conv => lhs; unfold chgS
               rw [h]; rfl
  | t2 hd a b => conv => lhs; unfold chgS
                 rw [h]; rfl
  | t3 hd a b c => conv => lhs; unfold chgS
                   rw [h]; rfl
theorem kids_le (T : Tt) : T.kids.length ≤ 3 := by cases T <;> simp [Tt.kids]
theorem kid_cnt (T : Tt) (j : Nat) (h : j < T.kids.length) : T.kids[j].cnt < T.cnt := by
  cases T with
  | t0 hd => simp [Tt.kids] at h
  | t1 hd a =>
    have e : j = 0 := by simp [Tt.kids] at h; omega
    subst e; simp [Tt.kids, Tt.cnt]
  | t2 hd a b =>
    rcases (show j = 0 ∨ j = 1 by simp [Tt.kids] at h; omega) with rfl | rfl <;> simp [Tt.kids, Tt.cnt] <;> omega
  | t3 hd a b c =>
    rcases (show j = 0 ∨ j = 1 ∨ j = 2 by simp [Tt.kids] at h; omega) with rfl | rfl | rfl <;> simp [Tt.kids, Tt.cnt] <;> omega
theorem kid_all' {P : Hd → Nat → Prop} (T : Tt) (hp : T.all P) (j : Nat) (h : j < T.kids.length) : T.kids[j].all P := by
  cases T with
  | t0 hd => simp [Tt.kids] at h
  | t1 hd a =>
    have e : j = 0 := by simp [Tt.kids] at h; omega
    subst e; exact hp.2
  | t2 hd a b =>
    rcases (show j = 0 ∨ j = 1 by simp [Tt.kids] at h; omega) with rfl | rfl
    · exact hp.2.1
    · exact hp.2.2
  | t3 hd a b c =>
    rcases (show j = 0 ∨ j = 1 ∨ j = 2 by simp [Tt.kids] at h; omega) with rfl | rfl | rfl
    · exact hp.2.1
    · exact hp.2.2.1
    · exact hp.2.2.2
theorem hd_all {P : Hd → Nat → Prop} (T : Tt) (hp : T.all P) : P T.hd T.kids.length := by
  cases T with
  | t0 hd => exact hp
  | t1 hd a => exact hp.1
  | t2 hd a b => exact hp.1
  | t3 hd a b c => exact hp.1
theorem mk_kids (T : Tt) : Tt.mk T.hd T.kids = T := by cases T <;> rfl
/-- A node's key, its kids as a list. -/
def keyP (h : Hd) (ps : List Nat) : Nk := keyH h ps[0]? ps[1]? ps[2]?
theorem keyP_kid (h : Hd) (ps : List Nat) (h3 : ps.length ≤ 3) (j : Nat) : (keyP h ps).kid j = ps[j]? := by
  rcases (show j = 0 ∨ j = 1 ∨ j = 2 ∨ 3 ≤ j by omega) with rfl | rfl | rfl | h
  · rfl
  · rfl
  · rfl
  · rw [List.getElem?_eq_none (by omega)]
    obtain ⟨n, rfl⟩ : ∃ n, j = n + 3 := ⟨j - 3, by omega⟩
    rfl
theorem ist_open {L : List (Nk × Nat × Nat)} {T : Tt} {b : Nat} (h : IsT L T b) : ∃ (ps : List Nat) (c : Nat), ps.length = T.kids.length ∧ (keyP T.hd ps, b, c) ∈ L ∧ ∀ j (h1 : j < ps.length) (h2 : j < T.kids.length), IsT L T.kids[j] ps[j] := by
  cases T with
  | t0 hd => obtain ⟨c, h⟩ := h; exact ⟨[], c, rfl, h, fun j h1 => by simp at h1⟩
  | t1 hd x =>
    obtain ⟨p, c, h1, h⟩ := h
    refine ⟨[p], c, rfl, h, fun j h2 h3 => ?_⟩
    have e : j = 0 := by simp at h2; omega
    subst e; exact h1
  | t2 hd x y =>
    obtain ⟨p, q, c, h1, h2, h⟩ := h
    refine ⟨[p, q], c, rfl, h, fun j h3 h4 => ?_⟩
    rcases (show j = 0 ∨ j = 1 by simp at h3; omega) with rfl | rfl
    · exact h1
    · exact h2
  | t3 hd x y z =>
    obtain ⟨p, q, r, c, h1, h2, h3, h⟩ := h
    refine ⟨[p, q, r], c, rfl, h, fun j h4 h5 => ?_⟩
    rcases (show j = 0 ∨ j = 1 ∨ j = 2 by simp at h4; omega) with rfl | rfl | rfl
    · exact h1
    · exact h2
    · exact h3
theorem ist_mk {L : List (Nk × Nat × Nat)} {h : Hd} {ts : List Tt} {ps : List Nat} {b c : Nat} (h3 : ts.length ≤ 3) (hl : ps.length = ts.length) (hm : (keyP h ps, b, c) ∈ L) (hk : ∀ j (h1 : j < ps.length) (h2 : j < ts.length), IsT L ts[j] ps[j]) : IsT L (Tt.mk h ts) b := by
  match ts, ps, hl, h3 with
  | [], [], _, _ => exact ⟨c, hm⟩
  | [a], [p], _, _ => exact ⟨p, c, hk 0 (by simp) (by simp), hm⟩
  | [a, a'], [p, p'], _, _ => exact ⟨p, p', c, hk 0 (by simp) (by simp), hk 1 (by simp) (by simp), hm⟩
  | [a, a', a''], [p, p', p''], _, _ => exact ⟨p, p', p'', c, hk 0 (by simp) (by simp), hk 1 (by simp) (by simp), hk 2 (by simp) (by simp), hm⟩
theorem ent_arity {base : Nat} {w : World} {L : List (Nk × Nat × Nat)} {Z : Nat → Zs} {H : Nat → Bool} {h : Hd} {ps : List Nat} {b : Nat} (he : EntOk base w L Z H (keyP h ps) b) (h3 : ps.length ≤ 3) : tkidsN h.k = ps.length := by
  have h0 : 0 ≤ tkidsN h.k := he.k0
  have hk3 : tkidsN h.k ≤ 3 := tkids_le h.k
  by_cases e : tkidsN h.k < ps.length
  · have := he.nok (tkidsN h.k).toNat (by show tkidsN h.k ≤ _; omega)
    rw [keyP_kid h ps h3, List.getElem?_eq_getElem (by omega)] at this
    cases this
  · by_cases e2 : (ps.length : Int) < tkidsN h.k
    · obtain ⟨y, _, hy⟩ := he.kid ps.length e2
      rw [keyP_kid h ps h3, List.getElem?_eq_none (by omega)] at hy
      cases hy
    · omega
theorem z_mk (T : Tt) : T.z = zmk T.hd.k T.hd.n (T.kids.map Tt.z) := by cases T <;> rfl
/-- What the store keeps of a node is what its tree's root keeps. -/
theorem ist_z {base : Nat} {w : World} {Sb mb gb clock : Nat} {L : List (Nk × Nat × Nat)} {Z : Nat → Zs} {H : Nat → Bool} (hs : St base w Sb mb gb clock L Z H) : ∀ (n : Nat) (T : Tt) (b : Nat), T.cnt ≤ n → IsT L T b → Z b = T.z
  | 0, T, _, h, _ => by have := T.cnt_pos; omega
  | n + 1, T, b, hn, h => by
    obtain ⟨ps, c, hl, hm, hk⟩ := ist_open h
    have he := hs.ents _ hm
    have h3 : ps.length ≤ 3 := by have := kids_le T; omega
    have ha := ent_arity he h3
    have e : (tkidsN T.hd.k).toNat = ps.length := by omega
    rw [he.z, z_mk T]
    show zmk T.hd.k T.hd.n ((List.range (tkidsN T.hd.k).toNat).map (fun j => Z (((keyP T.hd ps).kid j).getD 0))) = _
    rw [e]
    congr 1
    apply List.ext_getElem
    · simp [hl]
    · intro j h1 h2
      have hj : j < ps.length := by simpa using h1
      have hj2 : j < T.kids.length := by omega
      simp only [List.getElem_map, List.getElem_range]
      rw [keyP_kid _ _ h3, List.getElem?_eq_getElem hj]
      exact ist_z hs n _ _ (by have := kid_cnt T j hj2; omega) (hk j hj hj2)
theorem ist_lt {base : Nat} {w : World} {Sb mb gb clock : Nat} {L : List (Nk × Nat × Nat)} {Z : Nat → Zs} {H : Nat → Bool} (hs : St base w Sb mb gb clock L Z H) {T : Tt} {b : Nat} (h : IsT L T b) : T.cnt ≤ 20000 ∧ b ≠ gb ∧ b ≠ mb ∧ b < w.heap.size := by
  have hz := ist_z hs T.cnt T b (Nat.le_refl _) h
  obtain ⟨ps, c, hl, hm, hk⟩ := ist_open h
  have he := (hs.ents _ hm).ok.2
  have he : (Z b).sz ≤ 20000 := he
  rw [hz, T.z_sz] at he
  exact ⟨by omega, hs.gne _ hm, (hs.lt _ hm).2, (hs.lt _ hm).1⟩
/-- A node that is answered: that of a tree, or the one that is too great. -/
def Res (gb : Nat) (L : List (Nk × Nat × Nat)) : Option Tt → Nat → Prop
  | some T, b => IsT L T b
  | none, b => b = gb
theorem Res.more {gb : Nat} {L L' : List (Nk × Nat × Nat)} (hL : ∀ x ∈ L, x ∈ L') {r : Option Tt} {b : Nat} (h : Res gb L r b) : Res gb L' r b := by
  cases r with
  | none => exact h
  | some T => exact IsT.more hL h
end Go.Proofs.YtjkkojefpecbfaaGreat

/- The specification's trees, maybe too great: nodes that stand for trees; l3Under, l3With, l3Var. -/
namespace Go.Proofs.YtjkkojefpecbfaaGreat
open Go.ChangeShapes Go.WideShapes Go.ChangeAt Go.RowKit

/-- A node of the specification's stands for a tree, which may be too great; its rows lie in blocks that Q lets by. -/
def SpG (Q : Nat → Prop) (w : World) : Tt → Nat → Prop
  | .t0 h, p => FnAt Q w p (h.td []) [] (Tt.t0 h).zG
  | .t1 h a, p => ∃ pa, SpG Q w a pa ∧ FnAt Q w p (h.td []) [pa] (Tt.t1 h a).zG
  | .t2 h a b, p => ∃ pa pb, SpG Q w a pa ∧ SpG Q w b pb ∧ FnAt Q w p (h.td []) [pa, pb] (Tt.t2 h a b).zG
  | .t3 h a b c, p => ∃ pa pb pc, SpG Q w a pa ∧ SpG Q w b pb ∧ SpG Q w c pc ∧ FnAt Q w p (h.td []) [pa, pb, pc] (Tt.t3 h a b c).zG
theorem SpG.to {Q R : Nat → Prop} {w w' : World} (hc : Carry Q R w w') : ∀ {T : Tt} {p : Nat}, SpG Q w T p → SpG R w' T p
  | .t0 _, _, h => FnAt.to h hc
  | .t1 _ _, _, ⟨pa, h1, h⟩ => ⟨pa, h1.to hc, FnAt.to h hc⟩
  | .t2 _ _ _, _, ⟨pa, pb, h1, h2, h⟩ => ⟨pa, pb, h1.to hc, h2.to hc, FnAt.to h hc⟩
  | .t3 _ _ _ _, _, ⟨pa, pb, pc, h1, h2, h3, h⟩ => ⟨pa, pb, pc, h1.to hc, h2.to hc, h3.to hc, FnAt.to h hc⟩
theorem SpG.keep {Q : Nat → Prop} {w w' : World} {T : Tt} {p : Nat} (h : SpG Q w T p) (hb : Below w.heap.size w w') : SpG Q w' T p := h.to (Carry.below hb)
theorem SpG.weak {Q R : Nat → Prop} {w : World} {T : Tt} {p : Nat} (h : SpG Q w T p) (hq : ∀ b, b < w.heap.size → Q b → R b) : SpG R w T p :=
  h.to ⟨fun _ _ h => h, fun b hb hl => ⟨hq b hl hb, fun _ _ h => h⟩, fun _ _ h => h⟩
/-- A tree that is not too great. -/
theorem SpT.toG {Q : Nat → Prop} {w : World} : ∀ {T : Tt} {p : Nat}, T.all varP → T.cnt ≤ 20000 → SpT Q w T p → SpG Q w T p
  | .t0 h, p, hp, hc, hs => by
    have e := zG_eq (.t0 h) hp hc
    show FnAt Q w p (h.td []) [] (Tt.t0 h).zG
    rw [e]; exact hs
  | .t1 h a, p, hp, hc, ⟨pa, h1, hs⟩ => by
    have e := zG_eq (.t1 h a) hp hc
    simp only [Tt.cnt] at hc
    refine ⟨pa, h1.toG hp.2 (by omega), ?_⟩
    rw [e]; exact hs
  | .t2 h a b, p, hp, hc, ⟨pa, pb, h1, h2, hs⟩ => by
    have e := zG_eq (.t2 h a b) hp hc
    simp only [Tt.cnt] at hc
    refine ⟨pa, pb, h1.toG hp.2.1 (by omega), h2.toG hp.2.2 (by omega), ?_⟩
    rw [e]; exact hs
  | .t3 h a b c, p, hp, hc, ⟨pa, pb, pc, h1, h2, h3, hs⟩ => by
    have e := zG_eq (.t3 h a b c) hp hc
    simp only [Tt.cnt] at hc
    refine ⟨pa, pb, pc, h1.toG hp.2.1 (by omega), h2.toG hp.2.2.1 (by omega), h3.toG hp.2.2.2 (by omega), ?_⟩
    rw [e]; exact hs
theorem spg_open {Q : Nat → Prop} {w : World} {T : Tt} {p : Nat} (h : SpG Q w T p) : ∃ ps : List Nat, ps.length = T.kids.length ∧ FnAt Q w p (T.hd.td []) ps T.zG ∧ ∀ j (h1 : j < ps.length) (h2 : j < T.kids.length), SpG Q w T.kids[j] ps[j] := by
  cases T with
  | t0 hd => exact ⟨[], rfl, h, fun j h1 => by simp at h1⟩
  | t1 hd x =>
    obtain ⟨p, h1, h⟩ := h
    refine ⟨[p], rfl, h, fun j h2 h3 => ?_⟩
    have e : j = 0 := by simp at h2; omega
    subst e; exact h1
  | t2 hd x y =>
    obtain ⟨p, q, h1, h2, h⟩ := h
    refine ⟨[p, q], rfl, h, fun j h3 h4 => ?_⟩
    rcases (show j = 0 ∨ j = 1 by simp at h3; omega) with rfl | rfl
    · exact h1
    · exact h2
  | t3 hd x y z =>
    obtain ⟨p, q, r, h1, h2, h3, h⟩ := h
    refine ⟨[p, q, r], rfl, h, fun j h4 h5 => ?_⟩
    rcases (show j = 0 ∨ j = 1 ∨ j = 2 by simp at h4; omega) with rfl | rfl | rfl
    · exact h1
    · exact h2
    · exact h3
theorem mk_zG (h : Hd) (ts : List Tt) (h3 : ts.length ≤ 3) : (Tt.mk h ts).zG = zmkG h.k h.n (ts.map Tt.zG) := by
  match ts, h3 with
  | [], _ => rfl
  | [a], _ => rfl
  | [a, b], _ => rfl
  | [a, b, c], _ => rfl
theorem spg_mk {Q : Nat → Prop} {w : World} {h : Hd} {ts : List Tt} {ps : List Nat} {p : Nat} (h3 : ts.length ≤ 3) (hl : ps.length = ts.length) (hf : FnAt Q w p (h.td []) ps (Tt.mk h ts).zG) (hk : ∀ j (h1 : j < ps.length) (h2 : j < ts.length), SpG Q w ts[j] ps[j]) : SpG Q w (Tt.mk h ts) p := by
  match ts, ps, hl, h3 with
  | [], [], _, _ => exact hf
  | [a], [p], _, _ => exact ⟨p, hk 0 (by simp) (by simp), hf⟩
  | [a, a'], [p, p'], _, _ => exact ⟨p, p', hk 0 (by simp) (by simp), hk 1 (by simp) (by simp), hf⟩
  | [a, a', a''], [p, p', p''], _, _ => exact ⟨p, p', p'', hk 0 (by simp) (by simp), hk 1 (by simp) (by simp), hk 2 (by simp) (by simp), hf⟩
theorem spg_sz {Q : Nat → Prop} {w : World} {T : Tt} {p : Nat} (h : SpG Q w T p) : SzAt w p T.zG := by
  obtain ⟨ps, _, hf, _⟩ := spg_open h
  exact hf.sz
/-- Numbers of variables that are in range. -/
def numP (h : Hd) (_ : Nat) : Prop := h.k = 1 → 0 ≤ h.n ∧ h.n ≤ 1000000
theorem node_num (h : Hd) (c : Nat) (hp : nodeP h c) : numP h c := fun e => by
  have := num_of (td := h.td []) hp.2 e
  have h1 : 0 ≤ h.n ∧ h.n ≤ 20000 := this
  omega
theorem zsat_ok {z : Zs} (h : ZOkG z) : ZOkG (zsat z) := by
  unfold zsat
  refine ⟨?_, h.2⟩
  show 1 ≤ (if 20000 < z.sz then (20001 : Int) else z.sz)
  split
  · omega
  · exact h.1
theorem zmkG_ok (k n : Int) (zs : List Zs) (h : ∀ z ∈ zs, ZOkG z) (hn : k = 1 → 0 ≤ n ∧ n ≤ 1000000) : ZOkG (zmkG k n zs) := by
  unfold zmkG
  apply zsat_ok
  split
  · rename_i h1
    have := hn h1.1
    exact ⟨by show (1 : Int) ≤ 20001; omega, by show 0 ≤ n + 1; omega, by show n + 1 ≤ 1000001; omega⟩
  · have h1 := loP_boundsG k n zs h hn zs.length
    refine ⟨?_, h1.1, h1.2⟩
    show 1 ≤ 1 + sumZ zs
    have := sumZ_nonneg zs (fun z hz => (h z hz).1)
    omega
theorem zG_ok : ∀ T : Tt, T.all numP → ZOkG T.zG
  | .t0 h, hp => zmkG_ok _ _ _ (fun z hz => by simp at hz) hp
  | .t1 h a, hp => zmkG_ok _ _ _ (fun z hz => by simp at hz; subst hz; exact zG_ok a hp.2) hp.1
  | .t2 h a b, hp => zmkG_ok _ _ _ (fun z hz => by
      simp at hz
      rcases hz with rfl | rfl
      · exact zG_ok a hp.2.1
      · exact zG_ok b hp.2.2) hp.1
  | .t3 h a b c, hp => zmkG_ok _ _ _ (fun z hz => by
      simp at hz
      rcases hz with rfl | rfl | rfl
      · exact zG_ok a hp.2.1
      · exact zG_ok b hp.2.2.1
      · exact zG_ok c hp.2.2.2) hp.1
theorem zmkG_le (k n : Int) (zs : List Zs) : (zmkG k n zs).sz ≤ 20001 := by
  unfold zmkG zsat
  show (if 20000 < (if k = 1 ∧ 20000 < n then (⟨20001, n + 1, false⟩ : Zs) else zmk k n zs).sz then (20001 : Int) else (if k = 1 ∧ 20000 < n then (⟨20001, n + 1, false⟩ : Zs) else zmk k n zs).sz) ≤ 20001
  generalize (if k = 1 ∧ 20000 < n then (⟨20001, n + 1, false⟩ : Zs) else zmk k n zs).sz = z
  split <;> omega
theorem zG_le (T : Tt) : T.zG.sz ≤ 20001 := by cases T <;> exact zmkG_le _ _ _
theorem sumZ_bound : ∀ (l : List Zs), (∀ z ∈ l, z.sz ≤ 20001) → sumZ l ≤ 20001 * l.length
  | [], _ => by simp [sumZ]
  | z :: l, h => by
    have h1 := h z (by simp)
    have h2 := sumZ_bound l (fun x hx => h x (by simp [hx]))
    simp only [sumZ, List.length_cons]
    omega
set_option maxRecDepth 20000 in
set_option maxHeartbeats 4000000 in
theorem l3Under_any (A : Nat) (k : Int) (ka : Option Addr) (kn kc q : Nat) (w : World) (a0 : w.cell? ⟨A, 0, none⟩ = some (.int .i64 k)) (a5 : w.cell? ⟨A, 5, none⟩ = some (.slice ka kn kc)) (hk : (kn : Int) = tkidsN k) :
    Calls Tryz.prog 108 #[.pointer (some ⟨A, 0, none⟩), .int .i64 q] w fun e w' => e = .returned (.int .i64 (bindN k q)) ∧ Below w.heap.size w w' := by
  have HB := hide (fun W => l3Binds_any k W)
  have hAl := lt_cell a0
  have hk3 : kn ≤ 3 := by have := tkids_le k; omega
  cases hb : bindsB k
  · have HE : Hid (bindN k q = 0) := by show bindN k q = 0; unfold bindN; rw [if_neg (by simp [hb])]
    rw [hb] at HB
    go_enter Tryz.func108, Tryz.ntmps108
    go_wp2_with (go_at_call 138; refine (HB.out _).mono ?_; rintro e w1 ⟨rfl, hw⟩; have hw := hw.symm; subst hw)
    go_ret
    exact ⟨by rw [HE.out] <;> rfl, Below.refl _ _⟩
  · rw [hb] at HB
    by_cases he : (q : Int) = kn - 1
    · have HE : Hid (bindN k q = 1) := by show bindN k q = 1; unfold bindN; rw [if_pos ⟨hb, by omega⟩]
      have qe : ((q : Int) == (kn : Int) - 1) = true := by simp [he]
      clear he hk
      go_enter Tryz.func108, Tryz.ntmps108
      go_wp2_with (go_at_call 138; refine (HB.out _).mono ?_; rintro e w1 ⟨rfl, hw⟩; have hw := hw.symm; subst hw)
      go_ret
      exact ⟨by rw [HE.out] <;> rfl, Below.refl _ _⟩
    · have HE : Hid (bindN k q = 0) := by show bindN k q = 0; unfold bindN; rw [if_neg (fun h => he (by omega))]
      have qe : ((q : Int) == (kn : Int) - 1) = false := by simp [he]
      clear he hk
      go_enter Tryz.func108, Tryz.ntmps108
      go_wp2_with (go_at_call 138; refine (HB.out _).mono ?_; rintro e w1 ⟨rfl, hw⟩; have hw := hw.symm; subst hw)
      go_ret
      exact ⟨by rw [HE.out] <;> rfl, Below.refl _ _⟩

/-- What l3Make answers for trees. -/
theorem make_tree {Q R : Nat → Prop} {w : World} {h : Hd} {ts : List Tt} {ps : List Nat} {lvv kdv : Value} (hl : ps.length = ts.length) (h3 : ts.length ≤ 3) (hlv : LevRowF R w lvv h.lv) (hk : PtrRowQ R w kdv ps) (hs : ∀ j (h1 : j < ps.length) (h2 : j < ts.length), SpG R w ts[j] ps[j]) (hn : ∀ t ∈ ts, t.all numP) (hh : numP h ts.length) (h1 : h.k = 1 → ts = []) (_ : Q = R) :
    Calls Tryz.prog 92 #[.int .i64 h.k, .int .i64 h.n, .int .i64 h.m, .string h.s, lvv, kdv] w fun e w' => e = .returned (ptrV w.heap.size) ∧ SpG R w' (Tt.mk h ts) w.heap.size ∧ Below w.heap.size w w' := by
  have hz : ∀ z ∈ ts.map Tt.zG, ZOkG z := fun z hz => by
    obtain ⟨t, ht, rfl⟩ := List.mem_map.1 hz
    exact zG_ok t (hn t ht)
  have hsum : 1 + sumZ (ts.map Tt.zG) ≤ 1000000 := by
    have := sumZ_bound (ts.map Tt.zG) (fun z hz => by obtain ⟨t, _, rfl⟩ := List.mem_map.1 hz; exact zG_le t)
    rw [List.length_map] at this
    have h4 : (20001 : Int) * (ts.length : Int) ≤ 60003 := by omega
    omega
  refine (l3MakeG_any h.k h.n h.m h.s lvv kdv h.lv.length ps (ts.map Tt.zG) w hlv.row hk.row (by simp; omega) (fun j q1 q2 => by
    rw [List.getElem_map]
    exact spg_sz (hs j q1 (by omega))) hz hsum hh (fun e => List.eq_nil_of_length_eq_zero (by rw [hl, h1 e]; rfl))).mono ?_
  rintro e w' ⟨rfl, ht, hb⟩
  refine ⟨rfl, spg_mk h3 hl ⟨lvv, kdv, ?_, ?_, hlv.keep hb⟩ (fun j q1 q2 => (hs j q1 q2).keep hb), hb⟩
  · rw [mk_zG h ts h3]
    exact ht.base (Nat.zero_le _)
  · exact hk.to (fun b hq _ => ⟨hq, fun o u hu => keep_cell hb hu⟩)
theorem levrow_nil (R : Nat → Prop) (w : World) : LevRowF R w (.slice none 0 0) [] := ⟨[], [], rfl, ⟨none, 0, rfl, Nat.le_refl _, by unfold maxLen; omega, fun h => by simp at h⟩, ⟨⟨rfl, fun j h => by simp at h⟩, fun u hu => by simp at hu⟩, ⟨rfl, fun q h => by simp at h⟩⟩
theorem ptrrow_nil (R : Nat → Prop) (w : World) : PtrRowQ R w (.slice none 0 0) [] := ⟨none, 0, rfl, Nat.le_refl _, by unfold maxLen; omega, fun h => by simp at h⟩
set_option maxHeartbeats 1000000 in
theorem l3Var_any (R : Nat → Prop) (n : Int) (w : World) (hn : 0 ≤ n ∧ n ≤ 1000000) : Calls Tryz.prog 84 #[.int .i64 n] w fun e w' => ∃ p, e = .returned (ptrV p) ∧ SpG R w' (varT n) p ∧ Below w.heap.size w w' := by
  have HM := hide (make_tree (Q := R) (R := R) (h := ⟨1, n, 0, ⟨#[]⟩, []⟩) (ts := []) (ps := []) (lvv := .slice none 0 0) (kdv := .slice none 0 0) (w := w) rfl (by simp) (levrow_nil R w) (ptrrow_nil R w) (fun j h => by simp at h) (fun t ht => by simp at ht) (fun _ => hn) (fun _ => rfl) rfl)
  have HM : Hid (Calls Tryz.prog 92 #[.int .i64 1, .int .i64 n, .int .i64 0, .string ⟨#[]⟩, .slice none 0 0, .slice none 0 0] w fun e w' => e = .returned (ptrV w.heap.size) ∧ SpG R w' (varT n) w.heap.size ∧ Below w.heap.size w w') := HM.out
  go_enter Tryz.func84, Tryz.ntmps84
  go_wp2_with fail
  refine HM.out.mono ?_
  rintro e w1 ⟨rfl, h1, h2⟩
  have H1 := hide h1
  have H2 := hide h2
  clear h1 h2
  unfold ptrV
  go_wp2_with fail
  go_ret
  exact ⟨w.heap.size, rfl, H1.out, H2.out⟩
end Go.Proofs.YtjkkojefpecbfaaGreat
