/- What withKids answers: the node with other kids, or the one that is too great. -/
import Derived.Test.YtbgibiongnhjoaaGreatSpA
import Derived.Test.YtbgibiongnhjoaaGreatStH
import Derived.Test.YtbgibiongnhjoaaGreatTPlain
import Derived.LaidEqlPtr
import Derived.Deep.CutRange
import Derived.Test.YtbgibiongnhjoaaGreatDraw
import Derived.Test.YtbgibiongnhjoaaGreatSpecL
import Derived.Laws.IdiomStrings
import Derived.Deep.RegionWith
import Derived.Deep.RegionHeld3
import Derived.Test.YtbgibiongnhjoaaGreatTo
import Derived.Test.YtbgibiongnhjoaaGreatTrA
import Derived.Test.YtbgibiongnhjoaaGreatNames
namespace Go.Proofs.YtbgibiongnhjoaaGreat
open Go.ChangeShapes Go.WideShapes Go.ChangeAt Go.RowKit

theorem lv_small {h : Hd} {c : Nat} (hp : nodeP h c) : h.lv.length ≤ 6 ∧ ∀ l ∈ h.lv, l.length ≤ 64 := by
  obtain ⟨_, h2⟩ := hp
  refine ⟨?_, fun l hl => ?_⟩
  · simp only [tfieldsB, tlevB, Bool.and_eq_true, decide_eq_true_eq] at h2
    have h3 : ((h.td []).lv.length : Int) ≤ mostL (h.td []).k := h2.2.1.2
    have h4 : mostL (h.td []).k ≤ 6 := by unfold mostL; repeat (first | omega | split)
    have h5 : (h.td []).lv.length = h.lv.length := rfl
    omega
  · have h3 := lev_of h2 l hl
    simp only [lvlB, Bool.and_eq_true, decide_eq_true_eq] at h3
    exact h3.1.2
/-- What the levels of a node of the store are. -/
theorem ent_levs {base : Nat} {w : World} {L : List (Nk × Nat × Nat)} {Z : Nat → Zs} {H : Nat → Bool} {h : Hd} {ps : List Nat} {b : Nat} (he : EntOk base w L Z H (keyP h ps) b) (hv : ∀ l ∈ h.lv, lvlB l = true) : ∃ lv, NbAt w b (tmL (keyP h ps) lv (Z b) (H b)) ∧ (∀ w', Below base w w' → LevsAt w' lv h.lv) ∧ H b = hpP (parL h.lv) (fun j => H (((keyP h ps).kid j).getD 0)) (tkidsN h.k).toNat := by
  obtain ⟨lv, ls, h1, h2, ⟨h3, h4⟩, h5⟩ := he.node
  have e : ls = h.lv := by
    refine spell_inj h4 hv ?_
    have h6 : (keyP h ps).sp = ⟨(spell h.lv).toArray⟩ := rfl
    rw [h3] at h6
    have h7 := congrArg ByteArray.data h6
    simpa using h7
  subst e
  exact ⟨lv, h1, h2, h5⟩
/-- What withKids answers. -/
def WithOut (base Sb mb gb : Nat) (L : List (Nk × Nat × Nat)) (r : Option Tt) (w : World) (e : Ending) (w' : World) : Prop :=
  ∃ (b' clock' : Nat) (L' : List (Nk × Nat × Nat)) (Z' : Nat → Zs) (H' : Nat → Bool), e = .returned (.pointer (some ⟨b', 0, none⟩)) ∧ St base w' Sb mb gb clock' L' Z' H' ∧ (∀ x ∈ L, x ∈ L') ∧ Res gb L' r b' ∧ w.grownBy w' (some mb)

theorem heap_cell {w w' : World} {b o : Nat} {v : Value} (h : w'.heap[b]? = w.heap[b]?) (hc : w.cell? ⟨b, o, none⟩ = some v) : w'.cell? ⟨b, o, none⟩ = some v := by
  rw [World.cell?_of_block (w := w) (a := ⟨b, o, none⟩) h]; exact hc
theorem all_some : ∀ rs : List (Option Tt), (∃ ts : List Tt, rs = ts.map some) ∨ ∃ i, ∃ h : i < rs.length, rs[i] = none
  | [] => .inl ⟨[], rfl⟩
  | none :: _ => .inr ⟨0, by simp, rfl⟩
  | some a :: l => by
    rcases all_some l with ⟨ts, rfl⟩ | ⟨i, h, e⟩
    · exact .inl ⟨a :: ts, rfl⟩
    · exact .inr ⟨i + 1, by simp; exact h, by simpa using e⟩
theorem join_all (h : Hd) (ts : List Tt) : joinN h (ts.map some) = sizedT (Tt.mk h ts) := by
  match ts with
  | [] => rfl
  | [a] => rfl
  | [a, b] => rfl
  | a :: b :: c :: _ => rfl
theorem join_none (h : Hd) (rs : List (Option Tt)) (h3 : rs.length ≤ 3) (i : Nat) (hi : i < rs.length) (e : rs[i] = none) : joinN h rs = none := by
  match rs, h3 with
  | [], _ => simp at hi
  | [a], _ =>
    have : i = 0 := by simp at hi; omega
    subst this
    have e : a = none := e
    subst e; rfl
  | [a, b], _ =>
    rcases (show i = 0 ∨ i = 1 by simp at hi; omega) with rfl | rfl
    · have e : a = none := e
      subst e; rfl
    · have e : b = none := e
      subst e; cases a <;> rfl
  | [a, b, c], _ =>
    rcases (show i = 0 ∨ i = 1 ∨ i = 2 by simp at hi; omega) with rfl | rfl | rfl
    · have e : a = none := e
      subst e; rfl
    · have e : b = none := e
      subst e; cases a <;> rfl
    · have e : c = none := e
      subst e; cases a <;> cases b <;> rfl
theorem zmk_sz (k n : Int) (zs : List Zs) : (zmk k n zs).sz = 1 + sumZ zs := rfl
theorem sumZ_ge (l : List Zs) (h : ∀ z ∈ l, 1 ≤ z.sz) (j : Nat) (hj : j < l.length) : l[j].sz ≤ sumZ l := by
  induction l generalizing j with
  | nil => simp at hj
  | cons x l ih =>
    have h1 := h x (by simp)
    have h2 := sumZ_nonneg l (fun z hz => h z (by simp [hz]))
    cases j with
    | zero => simp only [sumZ, List.getElem_cons_zero]; omega
    | succ j =>
      have := ih (fun z hz => h z (by simp [hz])) j (by simpa using hj)
      simp only [sumZ, List.getElem_cons_succ]
      omega
theorem sumZ_cnt (ts : List Tt) : sumZ (ts.map Tt.z) = cntT ts := by
  induction ts with
  | nil => rfl
  | cons a l ih => simp only [List.map_cons, sumZ, cntT, ih, a.z_sz]; omega
/-- What node answers for a node whose kids were made anew. -/
theorem with_node {base Sb mb gb clock : Nat} {L : List (Nk × Nat × Nat)} {Z : Nat → Zs} {H : Nat → Bool} {T : Tt} {rs : List (Option Tt)} {ps : List Nat} {V : World} {lv : Value} (hs : St base V Sb mb gb clock L Z H) (hbase : base ≤ V.heap.size) (hP : T.all nodeP) (hrl : rs.length = T.kids.length) (hpl : ps.length = T.kids.length) (hr : ∀ i (h1 : i < rs.length) (h2 : i < ps.length), Res gb L rs[i] ps[i]) (hlv : ∀ w', Below base V w' → LevsAt w' lv T.hd.lv) :
    Calls Tryz.prog 98 #[.pointer (some ⟨Sb, 0, none⟩), .agg #[.int .i64 T.hd.k, .int .i64 T.hd.n, .int .i64 T.hd.m, .string T.hd.s, .string ⟨(spell T.hd.lv).toArray⟩, pv ps[0]?, pv ps[1]?, pv ps[2]?], lv] V (WithOut base Sb mb gb L (joinN T.hd rs) V) := by
  have hp := hd_all T hP
  have hl := (lv_small hp).1
  have hll := (lv_small hp).2
  have h3 : ps.length ≤ 3 := by have := kids_le T; omega
  have har : tkidsN T.hd.k = ps.length := by have := hp.1; omega
  have hkn : (tkidsN T.hd.k).toNat = ps.length := by omega
  have hkid := keyP_kid T.hd ps h3
  have hG : KeyG gb L (keyP T.hd ps) := by
    refine ⟨by show 0 ≤ tkidsN T.hd.k; omega, fun j hj => ?_, fun j hj => ?_⟩
    · have hj : (j : Int) < tkidsN T.hd.k := hj
      have hjp : j < ps.length := by omega
      rw [hkid, List.getElem?_eq_getElem hjp]
      have h := hr j (by omega) hjp
      cases hc : rs[j]'(by omega) with
      | none => rw [hc] at h; exact .inr (by rw [show ps[j] = gb from h])
      | some A =>
        rw [hc] at h
        obtain ⟨_, c, _, hm, _⟩ := ist_open h
        exact .inl ⟨_, hm, rfl⟩
    · have hj : tkidsN T.hd.k ≤ (j : Int) := hj
      rw [hkid, List.getElem?_eq_none (by omega)]
  have hn : (keyP T.hd ps).k = 1 → 0 ≤ (keyP T.hd ps).n ∧ (keyP T.hd ps).n ≤ 20000 := fun e => num_of (td := T.hd.td []) hp.2 e
  have hgreat : joinN T.hd rs = none → 20000 < (zmk (keyP T.hd ps).k (keyP T.hd ps).n (kidZ (upd Z gb ⟨20001, 0, false⟩) (keyP T.hd ps))).sz → Calls Tryz.prog 98 #[.pointer (some ⟨Sb, 0, none⟩), (keyP T.hd ps).val, lv] V (WithOut base Sb mb gb L (joinN T.hd rs) V) := fun e hsz => by
    refine (node_great base Sb mb gb clock L Z H (keyP T.hd ps) lv T.hd.lv V hs hbase hG hlv rfl (by omega) (fun l hl => by have := hll l hl; omega) hn hsz).mono ?_
    rintro e' w' ⟨rfl, h1, h2⟩
    exact ⟨gb, clock, L, Z, H, rfl, h1, fun x hx => hx, by rw [e]; exact rfl, (grown_of h2).but _⟩
  show Calls Tryz.prog 98 #[.pointer (some ⟨Sb, 0, none⟩), (keyP T.hd ps).val, lv] V _
  have hzlen : ∀ Z' : Nat → Zs, (kidZ Z' (keyP T.hd ps)).length = ps.length := fun Z' => by rw [kidZ_len]; exact hkn
  have hzget : ∀ (Z' : Nat → Zs) (j : Nat) (h : j < ps.length), (kidZ Z' (keyP T.hd ps))[j]'(by rw [hzlen]; exact h) = Z' ps[j] := fun Z' j h => by
    rw [kidZ_get, hkid, List.getElem?_eq_getElem h]; rfl
  rcases all_some rs with ⟨ts, rfl⟩ | ⟨i, hi, e⟩
  · have htl : ts.length = ps.length := by simp at hrl; omega
    have hti : ∀ i (h1 : i < ts.length) (h2 : i < ps.length), IsT L ts[i] ps[i] := fun i h1 h2 => by
      have h := hr i (by simpa using h1) h2
      simp only [List.getElem_map] at h
      exact h
    have hz : kidZ Z (keyP T.hd ps) = ts.map Tt.z := by
      apply List.ext_getElem
      · rw [hzlen, List.length_map]; omega
      · intro j h1 h2
        have hj : j < ps.length := by rw [hzlen] at h1; exact h1
        rw [hzget Z j hj, List.getElem_map]
        exact ist_z hs _ _ _ (Nat.le_refl _) (hti j (by omega) hj)
    have hcnt : (zmk (keyP T.hd ps).k (keyP T.hd ps).n (kidZ Z (keyP T.hd ps))).sz = (Tt.mk T.hd ts).cnt := by
      rw [zmk_sz, hz, sumZ_cnt, mk_cnt _ _ (by omega)]; omega
    rw [join_all] at hgreat ⊢
    by_cases hc : (Tt.mk T.hd ts).cnt ≤ 20000
    · have hK : KeySt L (keyP T.hd ps) := by
        refine ⟨hG.k0, fun j hj => ?_, hG.nok⟩
        have hj : (j : Int) < tkidsN T.hd.k := hj
        have hjp : j < ps.length := by omega
        rw [hkid, List.getElem?_eq_getElem hjp]
        obtain ⟨_, c, _, hm, _⟩ := ist_open (hti j (by omega) hjp)
        exact ⟨_, hm, rfl⟩
      refine (node_any base Sb mb gb clock L Z H (keyP T.hd ps) lv T.hd.lv V hs hbase hK hlv ⟨rfl, lev_of hp.2⟩ (by omega) (fun l hl => by have := hll l hl; omega) hn (by rw [hcnt]; omega)).mono ?_
      rintro e' w' ⟨b', clock', L', Z', H', rfl, h1, ⟨c, h2⟩, h4, h5⟩
      refine ⟨b', clock', L', Z', H', rfl, h1, fun x hx => (h4 x hx).1, ?_, h5⟩
      unfold sizedT
      rw [if_pos hc]
      exact ist_mk (by omega) (by omega) h2 (fun j q1 q2 => (hti j q2 q1).more (fun x hx => (h4 x hx).1))
    · refine hgreat (by unfold sizedT; rw [if_neg hc]) ?_
      have e : kidZ (upd Z gb ⟨20001, 0, false⟩) (keyP T.hd ps) = kidZ Z (keyP T.hd ps) := by
        apply List.ext_getElem
        · rw [hzlen, hzlen]
        · intro j h1 h2
          have hj : j < ps.length := by rw [hzlen] at h1; exact h1
          rw [hzget _ j hj, hzget _ j hj]
          exact upd_ne _ _ _ (ist_lt hs (hti j (by omega) hj)).2.1
      rw [e, hcnt]
      omega
  · have hip : i < ps.length := by omega
    refine hgreat (join_none _ _ (by omega) i hi e) ?_
    have h := hr i hi hip
    rw [e] at h
    have h : ps[i] = gb := h
    have h1 : ((kidZ (upd Z gb ⟨20001, 0, false⟩) (keyP T.hd ps))[i]'(by rw [hzlen]; exact hip)).sz = 20001 := by
      rw [hzget _ i hip, h, upd_at]
    have h2 := sumZ_ge (kidZ (upd Z gb ⟨20001, 0, false⟩) (keyP T.hd ps)) (fun z hz => by
      obtain ⟨j, hj, rfl⟩ := List.getElem_of_mem hz
      have hj' : j < ps.length := by rw [hzlen] at hj; exact hj
      rw [hzget _ j hj']
      by_cases e2 : ps[j] = gb
      · rw [e2, upd_at]; show (1 : Int) ≤ 20001; omega
      · rw [upd_ne _ _ _ e2]
        have h := hr j (by omega) hj'
        cases hc : rs[j]'(by omega) with
        | none => rw [hc] at h; exact absurd h e2
        | some A =>
          rw [hc] at h
          rw [ist_z hs _ _ _ (Nat.le_refl _) h, A.z_sz]
          have := A.cnt_pos
          omega) i (by rw [hzlen]; exact hip)
    rw [zmk_sz]
    omega

end Go.Proofs.YtbgibiongnhjoaaGreat

/- Rows of the call's own: of numbers and of nodes of levels. -/
namespace Go.Proofs.YtbgibiongnhjoaaGreat
open Go.ChangeShapes Go.WideShapes Go.ChangeAt Go.RowKit

/-- A row of nodes of the call's own, maybe none, the kids apart. -/
def NdW (base : Nat) (w : World) (v : Value) (ns : List Nd) : Prop :=
  ∃ xs, w.ownsRow base 174 3 v ns.length xs ∧ (∀ i (h : i < ns.length), xs[i * 3]? = some (.int .i64 ns[i].k) ∧ xs[i * 3 + 1]? = some (.string ns[i].s) ∧ ∃ kv, xs[i * 3 + 2]? = some kv ∧ KidRow base w kv ns[i].kids) ∧ Apart xs ns.length
theorem KidRow.mono {b b' : Nat} {w : World} {kv : Value} {ks : List Int} (h : KidRow b w kv ks) (hb : b' ≤ b) : KidRow b' w kv ks := by
  refine ⟨h.1, ?_⟩
  rcases h.2 with h1 | ⟨g, cap, cur, h1, h2, h3⟩
  · exact .inl h1
  · exact .inr ⟨g, cap, cur, h1, Nat.le_trans hb h2, h3⟩
end Go.Proofs.YtbgibiongnhjoaaGreat

/- What markText answers: a text of the number alone. -/
namespace Go.Proofs.YtbgibiongnhjoaaGreat
open Go.ChangeShapes Go.WideShapes Go.ChangeAt Go.RowKit

end Go.Proofs.YtbgibiongnhjoaaGreat

/- What changes a range of blocks alone; what markIntS and heldIntS answer. -/
namespace Go.Proofs.YtbgibiongnhjoaaGreat
open Go.ChangeShapes Go.WideShapes Go.ChangeAt Go.RowKit

theorem row_same {w w' : World} {base : Nat} {e : TypeId} {s : Nat} {v : Value} {n : Nat} {xs : List Value} (h : w.ownsRow base e s v n xs) (hh : ∀ g, v.ownBlock = some g → w'.heap[g]? = w.heap[g]?) : w'.ownsRow base e s v n xs := by
  refine ⟨h.1, ?_⟩
  rcases h.2 with h1 | ⟨g, cap, cur, h1, h2, h3, h4⟩
  · exact .inl h1
  · exact .inr ⟨g, cap, cur, h1, h2, by rw [hh g (by rw [h1]; rfl)]; exact h3, h4⟩
end Go.Proofs.YtbgibiongnhjoaaGreat

/- Rows of nodes of levels within a range of blocks, and their marks. -/
namespace Go.Proofs.YtbgibiongnhjoaaGreat
open Go.ChangeShapes Go.WideShapes Go.ChangeAt Go.RowKit

/-- A row of nodes that lies within a range of blocks. -/
def NdR (lo hi : Nat) (w : World) (v : Value) (ns : List Nd) : Prop :=
  ∃ xs, w.ownsRow lo 174 3 v ns.length xs ∧ (∀ b, v.ownBlock = some b → b < hi) ∧ (∀ i (h : i < ns.length), xs[i * 3]? = some (.int .i64 ns[i].k) ∧ xs[i * 3 + 1]? = some (.string ns[i].s) ∧ ∃ kv, xs[i * 3 + 2]? = some kv ∧ KidRow lo w kv ns[i].kids ∧ ∀ b, kv.ownBlock = some b → b < hi) ∧ Apart xs ns.length
theorem NdW.toR {lo : Nat} {w : World} {v : Value} {ns : List Nd} (h : NdW lo w v ns) : NdR lo w.heap.size w v ns := by
  obtain ⟨xs, h1, h2, h3⟩ := h
  refine ⟨xs, h1, fun b hb => (World.ownsRow.lt h1 b hb).2, fun i hi => ?_, h3⟩
  obtain ⟨a, b, kv, c, d⟩ := h2 i hi
  exact ⟨a, b, kv, c, d, fun b hb => (World.ownsRow.lt d b hb).2⟩
/-- Where the blocks of the range are as before. -/
theorem NdR.same {lo hi : Nat} {w w' : World} {v : Value} {ns : List Nd} (h : NdR lo hi w v ns) (hh : ∀ b, lo ≤ b → b < hi → w'.heap[b]? = w.heap[b]?) : NdR lo hi w' v ns := by
  obtain ⟨xs, h1, h0, h2, h3⟩ := h
  refine ⟨xs, row_same h1 (fun g hg => hh g (World.ownsRow.lt h1 g hg).1 (h0 g hg)), h0, fun i hi => ?_, h3⟩
  obtain ⟨a, b, kv, c, d, e⟩ := h2 i hi
  exact ⟨a, b, kv, c, row_same d (fun g hg => hh g (World.ownsRow.lt d g hg).1 (e g hg)), e⟩
theorem NdR.keep {lo hi : Nat} {w w' : World} {v : Value} {ns : List Nd} (h : NdR lo hi w v ns) (hb : Below w.heap.size w w') (hl : hi ≤ w.heap.size) : NdR lo hi w' v ns :=
  h.same fun b _ h4 => hb.block b (by omega)
theorem NdR.nodes {lo hi : Nat} {w : World} {v : Value} {ns : List Nd} (h : NdR lo hi w v ns) : NodesAt w v ns := by
  obtain ⟨xs, h1, _, h2, _⟩ := h
  rcases h1.2 with ⟨h3, h4⟩ | ⟨g, cap, cur, h3, h4⟩
  · exact ⟨none, 0, by rw [h3, h4], by omega, by unfold maxLen; omega, fun h => by omega⟩
  · subst h3
    exact NdRow.nodes (Q := fun _ => True) ⟨xs, h1, fun i hi => by obtain ⟨a, b, kv, c, d, _⟩ := h2 i hi; exact ⟨a, b, kv, c, d, fun _ _ => trivial⟩⟩
end Go.Proofs.YtbgibiongnhjoaaGreat

/- What the comparing of two levels (eqLevel and what it calls) answers at two levels with the same nodes: true; nothing that was there is written. -/
namespace Go.Proofs.YtbgibiongnhjoaaGreat
open Go.ChangeShapes Go.WideShapes Go.ChangeAt Go.RowKit

set_option maxHeartbeats 1000000 in
theorem eqIntS_any (v1 v2 : Value) (ks : List Int) (w : World) (h1 : IntsAt w v1 ks) (h2 : IntsAt w v2 ks) :
    Calls Tryz.prog 152 #[v1, v2] w fun e w' => e = .returned (.bool true) ∧ ∃ n, w' = w.drewN n := by
  obtain ⟨a1, cap1, rfl, hl1, hm1, hc1⟩ := h1
  obtain ⟨a2, cap2, rfl, hl2, hm2, hc2⟩ := h2
  unfold maxLen at hm1 hm2
  have H1 : Hid (0 < ks.length → ∃ b off, a1 = some ⟨b, off, none⟩ ∧ ∀ j (h : j < ks.length), w.cell? ⟨b, off + j, none⟩ = some (.int .i64 ks[j])) := hc1
  have H2 : Hid (0 < ks.length → ∃ b off, a2 = some ⟨b, off, none⟩ ∧ ∀ j (h : j < ks.length), w.cell? ⟨b, off + j, none⟩ = some (.int .i64 ks[j])) := hc2
  clear hc1 hc2
  go_enter Tryz.func152, Tryz.ntmps152
  go_wp2_with fail
  go_loopw [5] (fun i wr => ∃ (k : Nat) (n : Nat), k ≤ ks.length ∧ i = .int .i64 k ∧ wr = w.drewN n) (fun i _ => ks.length - (intOf i).toNat)
  case atStart => exact ⟨0, 0, by omega, rfl, rfl⟩
  case round =>
    obtain ⟨k, n, hk, rfl, rfl⟩ := hrel
    by_cases hlt : k < ks.length
    · obtain ⟨b1, o1, rfl, c1⟩ := H1.out (by omega)
      obtain ⟨b2, o2, rfl, c2⟩ := H2.out (by omega)
      have d1 := c1 k hlt
      have d2 := c2 k hlt
      have hlt' : (k : Int) < ks.length := by omega
      clear c1 c2 H1 H2
      generalize ks[k] = q at *
      go_wp2_with fail
      go_region
      go_wp2_with fail
      go_roundw
      case rel => exact ⟨k + 1, _, by omega, by go_num, rfl⟩
      case measure => simp [intOf]; omega
    · go_wp2_with fail
      go_ret
      exact ⟨rfl, n, rfl⟩

set_option maxHeartbeats 1000000 in
theorem eqLNode_any (nd : Nd) (k1 k2 : Value) (w : World) (h1 : IntsAt w k1 nd.kids) (h2 : IntsAt w k2 nd.kids) :
    Calls Tryz.prog 172 #[.agg #[.int .i64 nd.k, .string nd.s, k1], .agg #[.int .i64 nd.k, .string nd.s, k2]] w fun e w' => e = .returned (.bool true) ∧ Below w.heap.size w w' := by
  have H1 : Hid (∀ o1 o2, IntsAt ((w.alloc o1).alloc o2) k1 nd.kids) := fun o1 o2 => h1.keep (((Below.refl w.heap.size w).alloc (Nat.le_refl _) o1).alloc (by simp) o2)
  have H2 : Hid (∀ o1 o2, IntsAt ((w.alloc o1).alloc o2) k2 nd.kids) := fun o1 o2 => h2.keep (((Below.refl w.heap.size w).alloc (Nat.le_refl _) o1).alloc (by simp) o2)
  obtain ⟨a1, cap1, rfl, _, _, _⟩ := h1
  obtain ⟨a2, cap2, rfl, _, _, _⟩ := h2
  go_enter Tryz.func172, Tryz.ntmps172
  go_wp2_with (go_at_call 152; refine (eqIntS_any _ _ nd.kids _ (H1.out _ _) (H2.out _ _)).mono ?_; rintro e w1 ⟨rfl, n, rfl⟩)
  go_ret
  exact ⟨rfl, below_drewN (((Below.refl w.heap.size w).alloc (Nat.le_refl _) _).alloc (by simp) _) n⟩

set_option maxHeartbeats 1000000 in
theorem eqLNodeS_any (v1 v2 : Value) (ns : List Nd) (w : World) (h1 : NodesAt w v1 ns) (h2 : NodesAt w v2 ns) :
    Calls Tryz.prog 125 #[v1, v2] w fun e w' => e = .returned (.bool true) ∧ Below w.heap.size w w' := by
  obtain ⟨a1, cap1, rfl, hl1, hm1, hc1⟩ := h1
  obtain ⟨a2, cap2, rfl, hl2, hm2, hc2⟩ := h2
  unfold maxLen at hm1 hm2
  have H1 : Hid (0 < ns.length → ∃ b off, a1 = some ⟨b, off, none⟩ ∧ ∀ i (h : i < ns.length), NodeAt w b (off + i * 3) ns[i]) := hc1
  have H2 : Hid (0 < ns.length → ∃ b off, a2 = some ⟨b, off, none⟩ ∧ ∀ i (h : i < ns.length), NodeAt w b (off + i * 3) ns[i]) := hc2
  clear hc1 hc2
  go_enter Tryz.func125, Tryz.ntmps125
  go_wp2_with fail
  go_loopw [5] (fun i wr => ∃ (k : Nat), k ≤ ns.length ∧ i = .int .i64 k ∧ Below w.heap.size w wr) (fun i _ => ns.length - (intOf i).toNat)
  case atStart => exact ⟨0, by omega, rfl, Below.refl _ _⟩
  case round =>
    obtain ⟨k, hk, rfl, hbel⟩ := hrel
    by_cases hlt : k < ns.length
    · obtain ⟨b1, o1, rfl, c1⟩ := H1.out (by omega)
      obtain ⟨b2, o2, rfl, c2⟩ := H2.out (by omega)
      obtain ⟨p1, p2, kv1, p3, p4⟩ := (c1 k hlt).keep (w' := w) (Below.refl _ _)
      obtain ⟨q1, q2, kv2, q3, q4⟩ := (c2 k hlt).keep (w' := w) (Below.refl _ _)
      have p1' := keep_cell hbel p1
      have p2' := keep_cell hbel p2
      have p3' := keep_cell hbel p3
      have p4' := p4.keep hbel
      have q1' := keep_cell hbel q1
      have q2' := keep_cell hbel q2
      have q3' := keep_cell hbel q3
      have q4' := q4.keep hbel
      have hlt' : (k : Int) < ns.length := by omega
      clear c1 c2 H1 H2 p1 p2 p3 p4 q1 q2 q3 q4
      generalize ns[k] = nd at *
      go_wp2_with fail
      go_region_with (go_at_call 172; refine (eqLNode_any nd kv1 kv2 _ ?_ ?_).mono ?_; exact p4'.keep (below_drewN (Below.refl _ _) _); exact q4'.keep (below_drewN (Below.refl _ _) _); rintro e w1 ⟨rfl, hb⟩)
      all_goals
        go_wp2_with fail
        go_roundw
        case rel => exact ⟨k + 1, by omega, by go_num, hbel.drew.trans (hb.mono hbel.size)⟩
        case measure => simp [intOf]; omega
    · go_wp2_with fail
      go_ret
      exact ⟨rfl, hbel⟩

set_option maxHeartbeats 1000000 in
theorem eqLevel_any (v1 v2 : Value) (ns : List Nd) (w : World) (h1 : NodesAt w v1 ns) (h2 : NodesAt w v2 ns) :
    Calls Tryz.prog 74 #[.agg #[v1], .agg #[v2]] w fun e w' => e = .returned (.bool true) ∧ Below w.heap.size w w' := by
  have H1 : Hid (∀ o1 o2, NodesAt ((w.alloc o1).alloc o2) v1 ns) := fun o1 o2 => h1.keep (((Below.refl w.heap.size w).alloc (Nat.le_refl _) o1).alloc (by simp) o2)
  have H2 : Hid (∀ o1 o2, NodesAt ((w.alloc o1).alloc o2) v2 ns) := fun o1 o2 => h2.keep (((Below.refl w.heap.size w).alloc (Nat.le_refl _) o1).alloc (by simp) o2)
  obtain ⟨a1, cap1, rfl, _, _, _⟩ := h1
  obtain ⟨a2, cap2, rfl, _, _, _⟩ := h2
  go_enter Tryz.func74, Tryz.ntmps74
  go_wp2_with (go_at_call 125; refine (eqLNodeS_any _ _ ns _ (H1.out _ _) (H2.out _ _)).mono ?_; rintro e w1 ⟨rfl, hb⟩)
  go_ret
  exact ⟨rfl, (((Below.refl w.heap.size w).alloc (Nat.le_refl _) _).alloc (by simp) _).trans (hb.mono (by simp; omega))⟩
end Go.Proofs.YtbgibiongnhjoaaGreat

/- The copies of terms as rows of the call's own (toNode, toNodeS, toTerm): what a node leads to lies within a range of blocks of its own. -/
namespace Go.Proofs.YtbgibiongnhjoaaGreat
open Go.ChangeShapes Go.WideShapes Go.ChangeAt Go.RowKit

theorem row_mono {b b' : Nat} {w : World} {e : TypeId} {s : Nat} {v : Value} {n : Nat} {xs : List Value} (h : w.ownsRow b e s v n xs) (hb : b' ≤ b) : w.ownsRow b' e s v n xs := by
  refine ⟨h.1, ?_⟩
  rcases h.2 with h1 | ⟨g, cap, cur, h1, h2, h3⟩
  · exact .inl h1
  · exact .inr ⟨g, cap, cur, h1, Nat.le_trans hb h2, h3⟩
end Go.Proofs.YtbgibiongnhjoaaGreat
