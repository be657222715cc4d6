/- What withKids answers: the node with other kids, or the one that is too great. -/
import Derived.Test.YtjkkojefpecbfaaGreatSpA
import Derived.Test.YtjkkojefpecbfaaGreatStH
namespace Go.Proofs.YtjkkojefpecbfaaGreat
open Go.ChangeShapes Go.WideShapes Go.ChangeAt Go.RowKit

/-- The kids that are there, as cells. -/
def kp3 (ps : List Nat) : List Value := [pv ps[0]?, pv ps[1]?, pv ps[2]?]
theorem kp3_set (ps : List Nat) (p : Nat) (h : ps.length < 3) : (kp3 ps).set ps.length (.pointer (some ⟨p, 0, none⟩)) = kp3 (ps ++ [p]) := by
  match ps, h with
  | [], _ => rfl
  | [a], _ => rfl
  | [a, b], _ => rfl
/-- The block of the kids. -/
def K3P (w : World) (b : Nat) (xs : List Value) : Prop := w.ownsRow 0 127 3 (.slice (some ⟨b, 0, none⟩) 1 1) 1 xs
theorem K3P.cell {w : World} {b : Nat} {xs : List Value} (h : K3P w b xs) (o : Nat) (ho : o < 3) : w.cell? ⟨b, o, none⟩ = xs[o]? := World.ownsRow.cellAt h o (by omega)
theorem K3P.set {w : World} {b : Nat} {xs : List Value} (h : K3P w b xs) (o : Nat) (u : Value) : K3P (w.setCell ⟨b, o, none⟩ u) b (xs.set o u) := (World.ownsRow.stored h o u).1
theorem K3P.frozen {w : World} {b : Nat} {xs : List Value} (h : K3P w b xs) (o : Nat) : w.frozen? ⟨b, o, none⟩ = false := World.ownsRow.frozenAt h o
theorem K3P.lt {w : World} {b : Nat} {xs : List Value} (h : K3P w b xs) : b < w.heap.size := (World.ownsRow.lt h b rfl).2
theorem k3_heap {w : World} {b : Nat} {xs : List Value} (h : K3P w b xs) : ∃ cs, w.heap[b]? = some (.cells cs 127 (0, 0)) := by
  rcases h.2 with ⟨h', _⟩ | ⟨g, cap, cur, h', _, h4, _⟩
  · simp at h'
  · simp only [Value.slice.injEq, Option.some.injEq, Addr.mk.injEq, and_true, true_and] at h'
    obtain ⟨rfl, rfl⟩ := h'
    exact ⟨cur, h4⟩
theorem k3_same {w w' : World} {b : Nat} {xs : List Value} (h : K3P w b xs) (hh : w'.heap[b]? = w.heap[b]?) : K3P w' b xs := by
  refine ⟨h.1, ?_⟩
  rcases h.2 with h1 | ⟨g, cap, cur, h1, h2, h3, h4⟩
  · exact .inl h1
  · have e : g = b := by simp at h1; omega
    subst e
    exact .inr ⟨g, cap, cur, h1, h2, by rw [hh]; exact h3, h4⟩
/-- A block of another kind may change. -/
theorem St.other {base : Nat} {w w' : World} {Sb mb gb clock R e : Nat} {cs : Array Value} {f : Nat × Nat} {L : List (Nk × Nat × Nat)} {Z : Nat → Zs} {H : Nat → Bool} (hs : St base w Sb mb gb clock L Z H) (hR : w.heap[R]? = some (.cells cs e f)) (he : e ≠ 131) (he2 : e ≠ 148) (hg : w.grownBy w' (some R)) (hb : base ≤ R) (hbase : base ≤ w.heap.size) : St base w' Sb mb gb clock L Z H := by
  have hB : Below base w w' := (Below.refl base w).grown hg hbase (fun k hk => by have := Option.some.inj hk; omega)
  have hne : ∀ k (o : Obj), w.heap[k]? = some o → (∀ cs f, o ≠ Obj.cells cs e f) → w'.heap[k]? = w.heap[k]? := fun k o hk ho => hg.block k (Array.getElem?_eq_some_iff.1 hk).1 (fun e => by
    have e := Option.some.inj e
    rw [e, hR] at hk
    exact ho cs f (Option.some.inj hk).symm)
  have n1 : ∀ cs' f', (∀ cs f, Obj.cells cs' 131 f' ≠ Obj.cells cs e f) := fun cs' f' cs f h => by injection h with _ h1 _; exact he h1.symm
  have n2 : ∀ cs' f', (∀ cs f, Obj.cells cs' 148 f' ≠ Obj.cells cs e f) := fun cs' f' cs f h => by injection h with _ h1 _; exact he2 h1.symm
  refine ⟨?_, ?_, fun x hx => ?_, hs.lows, ?_, hs.gne, hs.uniq⟩
  · rw [hne Sb _ hs.sb (n2 _ _)]; exact hs.sb
  · rw [hne mb _ hs.mp (fun cs f h => by cases h)]; exact hs.mp
  · obtain ⟨cs, h1⟩ := (hs.ents x hx).ptr
    exact (hs.ents x hx).same hB (hne _ _ h1 (n1 _ _))
  · obtain ⟨cs, h1⟩ := nb_heap hs.great
    exact nb_same hs.great (hne _ _ h1 (n1 _ _))
theorem lv_small {h : Hd} {c : Nat} (hp : nodeP h c) : h.lv.length ≤ 6 ∧ ∀ l ∈ h.lv, l.length ≤ 64 := by
  obtain ⟨_, h2⟩ := hp
  refine ⟨?_, fun l hl => ?_⟩
  · simp only [tfieldsB, tlevB, Bool.and_eq_true, decide_eq_true_eq] at h2
    have h3 : ((h.td []).lv.length : Int) ≤ mostL (h.td []).k := h2.2.1.2
    have h4 : mostL (h.td []).k ≤ 6 := by unfold mostL; repeat (first | omega | split)
    have h5 : (h.td []).lv.length = h.lv.length := rfl
    omega
  · have h3 := lev_of h2 l hl
    simp only [lvlB, Bool.and_eq_true, decide_eq_true_eq] at h3
    exact h3.1.2
/-- What the levels of a node of the store are. -/
theorem ent_levs {base : Nat} {w : World} {L : List (Nk × Nat × Nat)} {Z : Nat → Zs} {H : Nat → Bool} {h : Hd} {ps : List Nat} {b : Nat} (he : EntOk base w L Z H (keyP h ps) b) (hv : ∀ l ∈ h.lv, lvlB l = true) : ∃ lv, NbAt w b (tmL (keyP h ps) lv (Z b) (H b)) ∧ (∀ w', Below base w w' → LevsAt w' lv h.lv) ∧ H b = hpP (parL h.lv) (fun j => H (((keyP h ps).kid j).getD 0)) (tkidsN h.k).toNat := by
  obtain ⟨lv, ls, h1, h2, ⟨h3, h4⟩, h5⟩ := he.node
  have e : ls = h.lv := by
    refine spell_inj h4 hv ?_
    have h6 : (keyP h ps).sp = ⟨(spell h.lv).toArray⟩ := rfl
    rw [h3] at h6
    have h7 := congrArg ByteArray.data h6
    simpa using h7
  subst e
  exact ⟨lv, h1, h2, h5⟩
theorem pv_form (p : Option Nat) : ∃ a, pv p = .pointer a := by cases p <;> exact ⟨_, rfl⟩
/-- What withKids answers. -/
def WithOut (base Sb mb gb : Nat) (L : List (Nk × Nat × Nat)) (r : Option Tt) (w : World) (e : Ending) (w' : World) : Prop :=
  ∃ (b' clock' : Nat) (L' : List (Nk × Nat × Nat)) (Z' : Nat → Zs) (H' : Nat → Bool), e = .returned (.pointer (some ⟨b', 0, none⟩)) ∧ St base w' Sb mb gb clock' L' Z' H' ∧ (∀ x ∈ L, x ∈ L') ∧ Res gb L' r b' ∧ w.grownBy w' (some mb)

theorem heap_cell {w w' : World} {b o : Nat} {v : Value} (h : w'.heap[b]? = w.heap[b]?) (hc : w.cell? ⟨b, o, none⟩ = some v) : w'.cell? ⟨b, o, none⟩ = some v := by
  rw [World.cell?_of_block (w := w) (a := ⟨b, o, none⟩) h]; exact hc
theorem all_some : ∀ rs : List (Option Tt), (∃ ts : List Tt, rs = ts.map some) ∨ ∃ i, ∃ h : i < rs.length, rs[i] = none
  | [] => .inl ⟨[], rfl⟩
  | none :: _ => .inr ⟨0, by simp, rfl⟩
  | some a :: l => by
    rcases all_some l with ⟨ts, rfl⟩ | ⟨i, h, e⟩
    · exact .inl ⟨a :: ts, rfl⟩
    · exact .inr ⟨i + 1, by simp; exact h, by simpa using e⟩
theorem join_all (h : Hd) (ts : List Tt) : joinN h (ts.map some) = sizedT (Tt.mk h ts) := by
  match ts with
  | [] => rfl
  | [a] => rfl
  | [a, b] => rfl
  | a :: b :: c :: _ => rfl
theorem join_none (h : Hd) (rs : List (Option Tt)) (h3 : rs.length ≤ 3) (i : Nat) (hi : i < rs.length) (e : rs[i] = none) : joinN h rs = none := by
  match rs, h3 with
  | [], _ => simp at hi
  | [a], _ =>
    have : i = 0 := by simp at hi; omega
    subst this
    have e : a = none := e
    subst e; rfl
  | [a, b], _ =>
    rcases (show i = 0 ∨ i = 1 by simp at hi; omega) with rfl | rfl
    · have e : a = none := e
      subst e; rfl
    · have e : b = none := e
      subst e; cases a <;> rfl
  | [a, b, c], _ =>
    rcases (show i = 0 ∨ i = 1 ∨ i = 2 by simp at hi; omega) with rfl | rfl | rfl
    · have e : a = none := e
      subst e; rfl
    · have e : b = none := e
      subst e; cases a <;> rfl
    · have e : c = none := e
      subst e; cases a <;> cases b <;> rfl
theorem zmk_sz (k n : Int) (zs : List Zs) : (zmk k n zs).sz = 1 + sumZ zs := rfl
theorem sumZ_ge (l : List Zs) (h : ∀ z ∈ l, 1 ≤ z.sz) (j : Nat) (hj : j < l.length) : l[j].sz ≤ sumZ l := by
  induction l generalizing j with
  | nil => simp at hj
  | cons x l ih =>
    have h1 := h x (by simp)
    have h2 := sumZ_nonneg l (fun z hz => h z (by simp [hz]))
    cases j with
    | zero => simp only [sumZ, List.getElem_cons_zero]; omega
    | succ j =>
      have := ih (fun z hz => h z (by simp [hz])) j (by simpa using hj)
      simp only [sumZ, List.getElem_cons_succ]
      omega
theorem sumZ_cnt (ts : List Tt) : sumZ (ts.map Tt.z) = cntT ts := by
  induction ts with
  | nil => rfl
  | cons a l ih => simp only [List.map_cons, sumZ, cntT, ih, a.z_sz]; omega
/-- What node answers for a node whose kids were made anew. -/
theorem with_node {base Sb mb gb clock : Nat} {L : List (Nk × Nat × Nat)} {Z : Nat → Zs} {H : Nat → Bool} {T : Tt} {rs : List (Option Tt)} {ps : List Nat} {V : World} {lv : Value} (hs : St base V Sb mb gb clock L Z H) (hbase : base ≤ V.heap.size) (hP : T.all nodeP) (hrl : rs.length = T.kids.length) (hpl : ps.length = T.kids.length) (hr : ∀ i (h1 : i < rs.length) (h2 : i < ps.length), Res gb L rs[i] ps[i]) (hlv : ∀ w', Below base V w' → LevsAt w' lv T.hd.lv) :
    Calls Tryz.prog 98 #[.pointer (some ⟨Sb, 0, none⟩), .agg #[.int .i64 T.hd.k, .int .i64 T.hd.n, .int .i64 T.hd.m, .string T.hd.s, .string ⟨(spell T.hd.lv).toArray⟩, pv ps[0]?, pv ps[1]?, pv ps[2]?], lv] V (WithOut base Sb mb gb L (joinN T.hd rs) V) := by
  have hp := hd_all T hP
  have hl := (lv_small hp).1
  have hll := (lv_small hp).2
  have h3 : ps.length ≤ 3 := by have := kids_le T; omega
  have har : tkidsN T.hd.k = ps.length := by have := hp.1; omega
  have hkn : (tkidsN T.hd.k).toNat = ps.length := by omega
  have hkid := keyP_kid T.hd ps h3
  have hG : KeyG gb L (keyP T.hd ps) := by
    refine ⟨by show 0 ≤ tkidsN T.hd.k; omega, fun j hj => ?_, fun j hj => ?_⟩
    · have hj : (j : Int) < tkidsN T.hd.k := hj
      have hjp : j < ps.length := by omega
      rw [hkid, List.getElem?_eq_getElem hjp]
      have h := hr j (by omega) hjp
      cases hc : rs[j]'(by omega) with
      | none => rw [hc] at h; exact .inr (by rw [show ps[j] = gb from h])
      | some A =>
        rw [hc] at h
        obtain ⟨_, c, _, hm, _⟩ := ist_open h
        exact .inl ⟨_, hm, rfl⟩
    · have hj : tkidsN T.hd.k ≤ (j : Int) := hj
      rw [hkid, List.getElem?_eq_none (by omega)]
  have hn : (keyP T.hd ps).k = 1 → 0 ≤ (keyP T.hd ps).n ∧ (keyP T.hd ps).n ≤ 20000 := fun e => num_of (td := T.hd.td []) hp.2 e
  have hgreat : joinN T.hd rs = none → 20000 < (zmk (keyP T.hd ps).k (keyP T.hd ps).n (kidZ (upd Z gb ⟨20001, 0, false⟩) (keyP T.hd ps))).sz → Calls Tryz.prog 98 #[.pointer (some ⟨Sb, 0, none⟩), (keyP T.hd ps).val, lv] V (WithOut base Sb mb gb L (joinN T.hd rs) V) := fun e hsz => by
    refine (node_great base Sb mb gb clock L Z H (keyP T.hd ps) lv T.hd.lv V hs hbase hG hlv rfl (by omega) (fun l hl => by have := hll l hl; omega) hn hsz).mono ?_
    rintro e' w' ⟨rfl, h1, h2⟩
    exact ⟨gb, clock, L, Z, H, rfl, h1, fun x hx => hx, by rw [e]; exact rfl, (grown_of h2).but _⟩
  show Calls Tryz.prog 98 #[.pointer (some ⟨Sb, 0, none⟩), (keyP T.hd ps).val, lv] V _
  have hzlen : ∀ Z' : Nat → Zs, (kidZ Z' (keyP T.hd ps)).length = ps.length := fun Z' => by rw [kidZ_len]; exact hkn
  have hzget : ∀ (Z' : Nat → Zs) (j : Nat) (h : j < ps.length), (kidZ Z' (keyP T.hd ps))[j]'(by rw [hzlen]; exact h) = Z' ps[j] := fun Z' j h => by
    rw [kidZ_get, hkid, List.getElem?_eq_getElem h]; rfl
  rcases all_some rs with ⟨ts, rfl⟩ | ⟨i, hi, e⟩
  · have htl : ts.length = ps.length := by simp at hrl; omega
    have hti : ∀ i (h1 : i < ts.length) (h2 : i < ps.length), IsT L ts[i] ps[i] := fun i h1 h2 => by
      have h := hr i (by simpa using h1) h2
      simp only [List.getElem_map] at h
      exact h
    have hz : kidZ Z (keyP T.hd ps) = ts.map Tt.z := by
      apply List.ext_getElem
      · rw [hzlen, List.length_map]; omega
      · intro j h1 h2
        have hj : j < ps.length := by rw [hzlen] at h1; exact h1
        rw [hzget Z j hj, List.getElem_map]
        exact ist_z hs _ _ _ (Nat.le_refl _) (hti j (by omega) hj)
    have hcnt : (zmk (keyP T.hd ps).k (keyP T.hd ps).n (kidZ Z (keyP T.hd ps))).sz = (Tt.mk T.hd ts).cnt := by
      rw [zmk_sz, hz, sumZ_cnt, mk_cnt _ _ (by omega)]; omega
    rw [join_all] at hgreat ⊢
    by_cases hc : (Tt.mk T.hd ts).cnt ≤ 20000
    · have hK : KeySt L (keyP T.hd ps) := by
        refine ⟨hG.k0, fun j hj => ?_, hG.nok⟩
        have hj : (j : Int) < tkidsN T.hd.k := hj
        have hjp : j < ps.length := by omega
        rw [hkid, List.getElem?_eq_getElem hjp]
        obtain ⟨_, c, _, hm, _⟩ := ist_open (hti j (by omega) hjp)
        exact ⟨_, hm, rfl⟩
      refine (node_any base Sb mb gb clock L Z H (keyP T.hd ps) lv T.hd.lv V hs hbase hK hlv ⟨rfl, lev_of hp.2⟩ (by omega) (fun l hl => by have := hll l hl; omega) hn (by rw [hcnt]; omega)).mono ?_
      rintro e' w' ⟨b', clock', L', Z', H', rfl, h1, ⟨c, h2⟩, h4, h5⟩
      refine ⟨b', clock', L', Z', H', rfl, h1, fun x hx => (h4 x hx).1, ?_, h5⟩
      unfold sizedT
      rw [if_pos hc]
      exact ist_mk (by omega) (by omega) h2 (fun j q1 q2 => (hti j q2 q1).more (fun x hx => (h4 x hx).1))
    · refine hgreat (by unfold sizedT; rw [if_neg hc]) ?_
      have e : kidZ (upd Z gb ⟨20001, 0, false⟩) (keyP T.hd ps) = kidZ Z (keyP T.hd ps) := by
        apply List.ext_getElem
        · rw [hzlen, hzlen]
        · intro j h1 h2
          have hj : j < ps.length := by rw [hzlen] at h1; exact h1
          rw [hzget _ j hj, hzget _ j hj]
          exact upd_ne _ _ _ (ist_lt hs (hti j (by omega) hj)).2.1
      rw [e, hcnt]
      omega
  · have hip : i < ps.length := by omega
    refine hgreat (join_none _ _ (by omega) i hi e) ?_
    have h := hr i hi hip
    rw [e] at h
    have h : ps[i] = gb := h
    have h1 : ((kidZ (upd Z gb ⟨20001, 0, false⟩) (keyP T.hd ps))[i]'(by rw [hzlen]; exact hip)).sz = 20001 := by
      rw [hzget _ i hip, h, upd_at]
    have h2 := sumZ_ge (kidZ (upd Z gb ⟨20001, 0, false⟩) (keyP T.hd ps)) (fun z hz => by
      obtain ⟨j, hj, rfl⟩ := List.getElem_of_mem hz
      have hj' : j < ps.length := by rw [hzlen] at hj; exact hj
      rw [hzget _ j hj']
      by_cases e2 : ps[j] = gb
      · rw [e2, upd_at]; show (1 : Int) ≤ 20001; omega
      · rw [upd_ne _ _ _ e2]
        have h := hr j (by omega) hj'
        cases hc : rs[j]'(by omega) with
        | none => rw [hc] at h; exact absurd h e2
        | some A =>
          rw [hc] at h
          rw [ist_z hs _ _ _ (Nat.le_refl _) h, A.z_sz]
          have := A.cnt_pos
          omega) i (by rw [hzlen]; exact hip)
    rw [zmk_sz]
    omega

set_option maxRecDepth 20000 in
set_option maxHeartbeats 8000000 in
theorem withKids_any (base Sb mb gb clock : Nat) (L : List (Nk × Nat × Nat)) (Z : Nat → Zs) (H : Nat → Bool) (T : Tt) (b : Nat) (rs : List (Option Tt)) (ps : List Nat) (w : World) (hs : St base w Sb mb gb clock L Z H) (hbase : base ≤ w.heap.size) (hT : IsT L T b) (hP : T.all nodeP) (hrl : rs.length = T.kids.length) (hpl : ps.length = T.kids.length) (hr : ∀ i (h1 : i < rs.length) (h2 : i < ps.length), Res gb L rs[i] ps[i]) :
    Calls Tryz.prog 155 #[.pointer (some ⟨Sb, 0, none⟩), .pointer (some ⟨b, 0, none⟩), .agg #[pv ps[0]?, pv ps[1]?, pv ps[2]?]] w (WithOut base Sb mb gb L (joinN T.hd rs) w) := by
  obtain ⟨qs, c, hql, hqm, _⟩ := ist_open hT
  have hp := hd_all T hP
  obtain ⟨lv, nb, hlv, _⟩ := ent_levs (hs.ents _ hqm) (lev_of hp.2)
  have nb : NbAt w b (tmL (keyP T.hd qs) lv (Z b) (H b)) := nb
  obtain ⟨la, lc, rfl, _, _, _⟩ := hlv w (Below.refl _ _)
  have hbl := nb.lt
  have a0 : w.cell? ⟨b, 0, none⟩ = some (.int .i64 T.hd.k) := by rw [nb.cell 0 (by omega)]; rfl
  have a1 : w.cell? ⟨b, 1, none⟩ = some (.int .i64 T.hd.n) := by rw [nb.cell 1 (by omega)]; rfl
  have a2 : w.cell? ⟨b, 2, none⟩ = some (.int .i64 T.hd.m) := by rw [nb.cell 2 (by omega)]; rfl
  have a3 : w.cell? ⟨b, 3, none⟩ = some (.string T.hd.s) := by rw [nb.cell 3 (by omega)]; rfl
  have a4 : w.cell? ⟨b, 4, none⟩ = some (.string ⟨(spell T.hd.lv).toArray⟩) := by rw [nb.cell 4 (by omega)]; rfl
  have a5 : w.cell? ⟨b, 5, none⟩ = some (pv qs[0]?) := by rw [nb.cell 5 (by omega)]; rfl
  have a6 : w.cell? ⟨b, 6, none⟩ = some (pv qs[1]?) := by rw [nb.cell 6 (by omega)]; rfl
  have a7 : w.cell? ⟨b, 7, none⟩ = some (pv qs[2]?) := by rw [nb.cell 7 (by omega)]; rfl
  have a8 : w.cell? ⟨b, 8, none⟩ = some (.slice la T.hd.lv.length lc) := by rw [nb.cell 8 (by omega)]; rfl
  obtain ⟨u0, hu0⟩ := pv_form qs[0]?
  obtain ⟨u1, hu1⟩ := pv_form qs[1]?
  obtain ⟨u2, hu2⟩ := pv_form qs[2]?
  obtain ⟨z0, hz0⟩ := pv_form ps[0]?
  obtain ⟨z1, hz1⟩ := pv_form ps[1]?
  obtain ⟨z2, hz2⟩ := pv_form ps[2]?
  rw [hu0] at a5
  rw [hu1] at a6
  rw [hu2] at a7
  rw [hz0, hz1, hz2]
  have hne := (ist_lt hs hT).2.2.1
  have hml : mb < w.heap.size := (Array.getElem?_eq_some_iff.1 hs.mp).1
  obtain ⟨W, hW⟩ : ∃ W, W = (w.alloc (.cells #[.pointer z0, .pointer z1, .pointer z2] 127)).alloc (.cells #[.int .i64 T.hd.k, .int .i64 T.hd.n, .int .i64 T.hd.m, .string T.hd.s, .string ⟨(spell T.hd.lv).toArray⟩, .pointer z0, .pointer z1, .pointer z2] 129) := ⟨_, rfl⟩
  obtain ⟨V, hV⟩ : ∃ V, V = W.drew := ⟨_, rfl⟩
  have hbW : Below w.heap.size w W := by rw [hW]; exact bel_alloc (bel_alloc (Below.refl _ _) _) _
  have hbV : Below w.heap.size w V := by rw [hV]; exact hbW.drew
  have hsV : St base V Sb mb gb clock L Z H := hs.keep hbV hbase
  have hbaseV : base ≤ V.heap.size := Nat.le_trans hbase hbV.size
  have HN : Hid (Calls Tryz.prog 98 #[.pointer (some ⟨Sb, 0, none⟩), .agg #[.int .i64 T.hd.k, .int .i64 T.hd.n, .int .i64 T.hd.m, .string T.hd.s, .string ⟨(spell T.hd.lv).toArray⟩, .pointer z0, .pointer z1, .pointer z2], .slice la T.hd.lv.length lc] V (WithOut base Sb mb gb L (joinN T.hd rs) V)) := by
    show Calls _ _ _ _ _
    rw [← hz0, ← hz1, ← hz2]
    exact with_node hsV hbaseV hP hrl hpl hr (fun w' h => hlv w' ((hbV.mono hbase).trans h))
  have g0 : V.cell? ⟨w.heap.size + 1, 0, none⟩ = some (.int .i64 T.hd.k) := by rw [hV, hW]; simp [go_sem]
  have g1 : V.cell? ⟨w.heap.size + 1, 1, none⟩ = some (.int .i64 T.hd.n) := by rw [hV, hW]; simp [go_sem]
  have g2 : V.cell? ⟨w.heap.size + 1, 2, none⟩ = some (.int .i64 T.hd.m) := by rw [hV, hW]; simp [go_sem]
  have g3 : V.cell? ⟨w.heap.size + 1, 3, none⟩ = some (.string T.hd.s) := by rw [hV, hW]; simp [go_sem]
  have g4 : V.cell? ⟨w.heap.size + 1, 4, none⟩ = some (.string ⟨(spell T.hd.lv).toArray⟩) := by rw [hV, hW]; simp [go_sem]
  have g5 : V.cell? ⟨w.heap.size + 1, 5, none⟩ = some (.pointer z0) := by rw [hV, hW]; simp [go_sem]
  have g6 : V.cell? ⟨w.heap.size + 1, 6, none⟩ = some (.pointer z1) := by rw [hV, hW]; simp [go_sem]
  have g7 : V.cell? ⟨w.heap.size + 1, 7, none⟩ = some (.pointer z2) := by rw [hV, hW]; simp [go_sem]
  have g8 : V.cell? ⟨b, 8, none⟩ = some (.slice la T.hd.lv.length lc) := keep_cell hbV a8
  have hbV2 := lt_cell g8
  have hkV2 := lt_cell g0
  have HGV := hide (grown_of hbV)
  have hS0 : (fun w' : World => w'.heap[w.heap.size + 1]? = V.heap[w.heap.size + 1]? ∧ w'.heap[b]? = V.heap[b]?) W.drew := by rw [hV]; exact ⟨rfl, rfl⟩
  have HG := hide (fun (wx : World) (h : wx.heap[w.heap.size + 1]? = V.heap[w.heap.size + 1]?) => And.intro (heap_cell h g0) (And.intro (heap_cell h g1) (And.intro (heap_cell h g2) (And.intro (heap_cell h g3) (And.intro (heap_cell h g4) (And.intro (heap_cell h g5) (And.intro (heap_cell h g6) (heap_cell h g7))))))))
  have HG8 := hide (fun (wx : World) (h : wx.heap[b]? = V.heap[b]?) => heap_cell h g8)
  have HV := hide hV
  clear hu0 hu1 hu2 nb hs hbase hT hP hrl hpl hr hql hqm hp hlv hsV hbaseV hbV hbW hz0 hz1 hz2 g0 g1 g2 g3 g4 g5 g6 g7 g8
  have HW := hide hW
  clear hW hV
  go_enter Tryz.func155, Tryz.ntmps155
  go_wp2_with fail
  rw [← HW.out]
  refine anyE_region (L := 7) (S := fun w' : World => w'.heap[w.heap.size + 1]? = V.heap[w.heap.size + 1]? ∧ w'.heap[b]? = V.heap[b]?) (by kernel_rfl) ?_
  refine anyE_take 0 (v := ?v1) rfl (by kernel_rfl) (by kernel_rfl) (by kernel_rfl) (by kernel_rfl) (fun _ _ _ h => h) (by rfl) ?hy1 hS0 ?rest1
  case hy1 =>
    intro wx hx
    obtain ⟨m0, m1, m2, m3, m4, m5, m6, m7⟩ := HG.out wx hx.1
    have m8 := HG8.out wx hx.2
    go_simp
    try rfl
  case rest1 =>
  intro K hK
  go_simp
  refine hK.out _ ?_
  clear hK K
  refine anyE_take 1 (v := ?v2) rfl (by kernel_rfl) (by kernel_rfl) (by kernel_rfl) (by kernel_rfl) (fun _ _ _ h => h) (by rfl) ?hy2 hS0 ?rest2
  case hy2 =>
    intro wx hx
    obtain ⟨m0, m1, m2, m3, m4, m5, m6, m7⟩ := HG.out wx hx.1
    have m8 := HG8.out wx hx.2
    go_simp
    try rfl
  case rest2 =>
  intro K hK
  go_simp
  refine hK.out _ ?_
  clear hK K
  refine anyE_take 2 (v := ?v3) rfl (by kernel_rfl) (by kernel_rfl) (by kernel_rfl) (by kernel_rfl) (fun _ _ _ h => h) (by rfl) ?hy3 hS0 ?rest3
  case hy3 =>
    intro wx hx
    obtain ⟨m0, m1, m2, m3, m4, m5, m6, m7⟩ := HG.out wx hx.1
    have m8 := HG8.out wx hx.2
    go_simp
    try rfl
  case rest3 =>
  intro K hK
  go_simp
  refine hK.out _ ?_
  clear hK K
  refine anyE_take 3 (v := ?v4) rfl (by kernel_rfl) (by kernel_rfl) (by kernel_rfl) (by kernel_rfl) (fun _ _ _ h => h) (by rfl) ?hy4 hS0 ?rest4
  case hy4 =>
    intro wx hx
    obtain ⟨m0, m1, m2, m3, m4, m5, m6, m7⟩ := HG.out wx hx.1
    have m8 := HG8.out wx hx.2
    go_simp
    try rfl
  case rest4 =>
  intro K hK
  go_simp
  refine hK.out _ ?_
  clear hK K
  refine anyE_take 4 (v := ?v5) rfl (by kernel_rfl) (by kernel_rfl) (by kernel_rfl) (by kernel_rfl) (fun _ _ _ h => h) (by rfl) ?hy5 hS0 ?rest5
  case hy5 =>
    intro wx hx
    obtain ⟨m0, m1, m2, m3, m4, m5, m6, m7⟩ := HG.out wx hx.1
    have m8 := HG8.out wx hx.2
    go_simp
    try rfl
  case rest5 =>
  intro K hK
  go_simp
  refine hK.out _ ?_
  clear hK K
  refine anyE_take 5 (v := ?v6) rfl (by kernel_rfl) (by kernel_rfl) (by kernel_rfl) (by kernel_rfl) (fun _ _ _ h => h) (by rfl) ?hy6 hS0 ?rest6
  case hy6 =>
    intro wx hx
    obtain ⟨m0, m1, m2, m3, m4, m5, m6, m7⟩ := HG.out wx hx.1
    have m8 := HG8.out wx hx.2
    go_simp
    try rfl
  case rest6 =>
  intro K hK
  go_simp
  refine hK.out _ ?_
  clear hK K
  refine anyE_one 6 (by kernel_rfl) rfl (fun K hK => ?_)
  rw [← HV.out]
  go_simp
  refine HN.out.mono ?_
  rintro e w' ⟨b', clock', L', Z', H', rfl, h1, h2, h3, h4⟩
  have H1 := hide h1
  have H2 := hide h2
  have H3 := hide h3
  have H4 := hide ((HGV.out.but (some mb)).trans h4)
  have e1 : w'.heap[w.heap.size + 1]? = V.heap[w.heap.size + 1]? := h4.block _ hkV2 (fun e => by have := Option.some.inj e; omega)
  have e2 : w'.heap[b]? = V.heap[b]? := h4.block _ hbV2 (fun e => hne (Option.some.inj e))
  clear h1 h2 h3 h4
  refine hK.out _ _ (fun _ => ⟨e1, e2⟩) ?_
  clear hK K
  refine anyE_one 7 (by kernel_rfl) rfl (fun K hK => ?_)
  go_simp
  refine hK.out _ _ (fun h => absurd rfl h) ?_
  clear hK K
  refine anyE_done (by kernel_rfl) ?_ _
  go_wp2_with fail
  go_ret
  exact ⟨b', clock', L', Z', H', rfl, H1.out, H2.out, H3.out, H4.out⟩
end Go.Proofs.YtjkkojefpecbfaaGreat
