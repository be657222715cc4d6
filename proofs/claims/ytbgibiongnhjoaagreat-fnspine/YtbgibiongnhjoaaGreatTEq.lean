/- A tree of valid nodes that is small enough is a valid term. No program is walked here. -/
import Derived.Test.YtbgibiongnhjoaaGreatStX
import Derived.Test.YtbgibiongnhjoaaGreatPutP
import Derived.Test.YtbgibiongnhjoaaGreatDrK
import Derived.Test.YtbgibiongnhjoaaGreatTFTree
import Derived.Test.YtbgibiongnhjoaaGreatStP
import Derived.Test.YtbgibiongnhjoaaGreatSpecL
import Derived.Ground.SlgnProg
import Derived.Shelf.SlGeneric
import Derived.Shelf.SlicesE.Reverse
import Derived.Test.YtbgibiongnhjoaaGreatTPlain
import Derived.Test.YtbgibiongnhjoaaGreatMkT
import Derived.Test.YtbgibiongnhjoaaGreatFew
namespace Go.Proofs.YtbgibiongnhjoaaGreat
open Go.ChangeShapes Go.WideShapes Go.ChangeAt Go.RowKit

theorem step_kids {ts : List Td} {o : Nat} {st roots : List Int} {h : Hd} (hr : trun (tfieldsB nameB) ts o = some (st ++ roots)) (hn : ts[o]? = some (h.td roots)) (hp : nodeP h roots.length) : trun (tfieldsB nameB) ts (o + 1) = some (st ++ [(o : Int)]) := by
  obtain ⟨h1, h2⟩ := hp
  have hk : tkidsN (h.td roots).k = (roots.length : Int) := h1.symm
  have hz : (st ++ roots).length - (tkidsN (h.td roots).k).toNat = st.length := by rw [hk, List.length_append]; simp
  simp only [trun, hr, hn]
  have h2' : tfieldsB nameB (h.td roots) = true := h2
  rw [tstep_some _ (by rw [hk]; omega) (by rw [hk, List.length_append]; omega) h2' (by rw [hz, List.drop_left]; rfl), hz, List.take_left]
theorem trun_flat : ∀ (T : Tt) (o : Nat), T.all nodeP → ∀ (ts : List Td) (st : List Int), (∀ i td, (T.flat o)[i]? = some td → ts[o + i]? = some td) → trun (tfieldsB nameB) ts o = some st → trun (tfieldsB nameB) ts (o + T.cnt) = some (st ++ [((o + T.cnt : Nat) : Int) - 1])
  | .t0 h, o, hp, ts, st, hn, hr => by
    have h0 : ts[o]? = some (h.td []) := hn 0 (h.td []) rfl
    have hs := step_kids (st := st) (roots := []) (h := h) (by rw [List.append_nil]; exact hr) h0 hp
    show trun _ ts (o + 1) = _
    rw [hs]
    simp only [Tt.cnt]
    rw [show (((o + 1 : Nat) : Int) - 1) = (o : Int) by omega]
  | .t1 h a, o, hp, ts, st, hn, hr => by
    have l1 := a.flat_len o
    have e : o + (Tt.t1 h a).cnt = (o + a.cnt) + 1 := by simp only [Tt.cnt]; omega
    have ih := trun_flat a o hp.2 ts st (fun i nd hi => hn i nd (by simp only [Tt.flat]; exact get_left _ hi)) hr
    have h0 := hn a.cnt (h.td [((o + a.cnt : Nat) : Int) - 1]) (by simp only [Tt.flat]; rw [List.getElem?_append_right (by omega), l1]; simp)
    have hs := step_kids (st := st) (roots := [((o + a.cnt : Nat) : Int) - 1]) (h := h) ih h0 hp.1
    rw [e, hs, show (((o + a.cnt + 1 : Nat) : Int) - 1) = ((o + a.cnt : Nat) : Int) by omega]
  | .t2 h a b, o, hp, ts, st, hn, hr => by
    have l1 := a.flat_len o
    have l2 := b.flat_len (o + a.cnt)
    have e : o + (Tt.t2 h a b).cnt = (o + a.cnt + b.cnt) + 1 := by simp only [Tt.cnt]; omega
    have ih := trun_flat a o hp.2.1 ts st (fun i nd hi => hn i nd (by simp only [Tt.flat]; exact get_left _ (get_left _ hi))) hr
    have ih2 := trun_flat b (o + a.cnt) hp.2.2 ts _ (fun i nd hi => by
      have := hn (a.cnt + i) nd (by simp only [Tt.flat]; have := get_left [h.td [((o + a.cnt : Nat) : Int) - 1, ((o + a.cnt + b.cnt : Nat) : Int) - 1]] (get_right (a.flat o) hi); rwa [l1] at this)
      rwa [← Nat.add_assoc] at this) ih
    have h0 := hn (a.cnt + b.cnt) (h.td [((o + a.cnt : Nat) : Int) - 1, ((o + a.cnt + b.cnt : Nat) : Int) - 1]) (by simp only [Tt.flat]; rw [List.getElem?_append_right (by simp; omega)]; simp [l1, l2])
    rw [← Nat.add_assoc] at h0
    have hs := step_kids (st := st) (roots := [((o + a.cnt : Nat) : Int) - 1, ((o + a.cnt + b.cnt : Nat) : Int) - 1]) (h := h) (by rw [ih2, List.append_assoc]; rfl) h0 hp.1
    rw [e, hs, show (((o + a.cnt + b.cnt + 1 : Nat) : Int) - 1) = ((o + a.cnt + b.cnt : Nat) : Int) by omega]
  | .t3 h a b c, o, hp, ts, st, hn, hr => by
    have l1 := a.flat_len o
    have l2 := b.flat_len (o + a.cnt)
    have l3 := c.flat_len (o + a.cnt + b.cnt)
    have e : o + (Tt.t3 h a b c).cnt = (o + a.cnt + b.cnt + c.cnt) + 1 := by simp only [Tt.cnt]; omega
    have ih := trun_flat a o hp.2.1 ts st (fun i nd hi => hn i nd (by simp only [Tt.flat]; exact get_left _ (get_left _ (get_left _ hi)))) hr
    have ih2 := trun_flat b (o + a.cnt) hp.2.2.1 ts _ (fun i nd hi => by
      have := hn (a.cnt + i) nd (by simp only [Tt.flat]; have := get_left [h.td [((o + a.cnt : Nat) : Int) - 1, ((o + a.cnt + b.cnt : Nat) : Int) - 1, ((o + a.cnt + b.cnt + c.cnt : Nat) : Int) - 1]] (get_left (c.flat (o + a.cnt + b.cnt)) (get_right (a.flat o) hi)); rwa [l1] at this)
      rwa [← Nat.add_assoc] at this) ih
    have ih3 := trun_flat c (o + a.cnt + b.cnt) hp.2.2.2 ts _ (fun i nd hi => by
      have := hn (a.cnt + b.cnt + i) nd (by simp only [Tt.flat]; have := get_left [h.td [((o + a.cnt : Nat) : Int) - 1, ((o + a.cnt + b.cnt : Nat) : Int) - 1, ((o + a.cnt + b.cnt + c.cnt : Nat) : Int) - 1]] (get_right (a.flat o ++ b.flat (o + a.cnt)) hi); rwa [List.length_append, l1, l2] at this)
      rwa [← Nat.add_assoc, ← Nat.add_assoc] at this) ih2
    have h0 := hn (a.cnt + b.cnt + c.cnt) (h.td [((o + a.cnt : Nat) : Int) - 1, ((o + a.cnt + b.cnt : Nat) : Int) - 1, ((o + a.cnt + b.cnt + c.cnt : Nat) : Int) - 1]) (by simp only [Tt.flat]; rw [List.getElem?_append_right (by simp; omega)]; simp [l1, l2, l3, show a.cnt + b.cnt + c.cnt - (a.cnt + (b.cnt + c.cnt)) = 0 by omega])
    rw [← Nat.add_assoc, ← Nat.add_assoc] at h0
    have hs := step_kids (st := st) (roots := [((o + a.cnt : Nat) : Int) - 1, ((o + a.cnt + b.cnt : Nat) : Int) - 1, ((o + a.cnt + b.cnt + c.cnt : Nat) : Int) - 1]) (h := h) (by rw [ih3, List.append_assoc, List.append_assoc]; rfl) h0 hp.1
    rw [e, hs, show (((o + a.cnt + b.cnt + c.cnt + 1 : Nat) : Int) - 1) = ((o + a.cnt + b.cnt + c.cnt : Nat) : Int) by omega]
/-- A small tree of valid nodes is a valid term. -/
theorem flat_term {T : Tt} (h : T.all nodeP) (hc : T.cnt ≤ 20000) : termB (T.flat 0) = true := by
  have hr := trun_flat T 0 h (T.flat 0) [] (fun i td hi => by rw [Nat.zero_add]; exact hi) rfl
  simp only [termB, termB', Bool.and_eq_true, decide_eq_true_eq]
  refine ⟨by rw [Tt.flat_len]; exact hc, ?_⟩
  rw [Tt.flat_len, show T.cnt = 0 + T.cnt by omega, hr]
  simp
theorem spD_all {P : Hd → Nat → Prop} : ∀ {T : Tt}, T.all P → (spineT T).1.all P ∧ ∀ x ∈ (spineT T).2, x.all P
  | .t0 _, h => ⟨h, by simp [spineT]⟩
  | .t1 _ _, h => ⟨h, by simp [spineT]⟩
  | .t3 _ _ _ _, h => ⟨h, by simp [spineT]⟩
  | .t2 k a b, h => by
    obtain ⟨h1, h2⟩ := spD_all (T := a) h.2.1
    simp only [spineT]
    split
    · exact ⟨h1, fun x hx => by
        rcases List.mem_append.1 hx with q | q
        · exact h2 x q
        · rw [List.mem_singleton.1 q]; exact h.2.2⟩
    · exact ⟨h, by simp⟩
theorem spD_cnt : ∀ (T : Tt), (spineT T).1.cnt ≤ T.cnt ∧ ∀ x ∈ (spineT T).2, x.cnt ≤ T.cnt
  | .t0 _ => ⟨Nat.le_refl _, by simp [spineT]⟩
  | .t1 _ _ => ⟨Nat.le_refl _, by simp [spineT]⟩
  | .t3 _ _ _ _ => ⟨Nat.le_refl _, by simp [spineT]⟩
  | .t2 k a b => by
    obtain ⟨h1, h2⟩ := spD_cnt a
    simp only [spineT, Tt.cnt]
    split
    · exact ⟨by simp only; omega, fun x hx => by
        rcases List.mem_append.1 hx with q | q
        · have := h2 x q; omega
        · rw [List.mem_singleton.1 q]; omega⟩
    · exact ⟨by simp only [Tt.cnt]; omega, by simp⟩
theorem spD_len : ∀ (T : Tt), (spineT T).2.length ≤ T.cnt
  | .t0 _ => by simp [spineT]
  | .t1 _ _ => by simp [spineT]
  | .t3 _ _ _ _ => by simp [spineT]
  | .t2 k a b => by
    have := spD_len a
    simp only [spineT, Tt.cnt]
    split
    · simp; omega
    · simp
/-- The head of a spine is no application. -/
theorem spD_head : ∀ (T : Tt), T.all nodeP → (spineT T).1.hd.k ≠ 4
  | .t0 h, hp => fun e => by have e' : h.k = 4 := e; have h1 := hp.1; rw [e'] at h1; exact absurd h1 (by decide)
  | .t1 h a, hp => fun e => by have e' : h.k = 4 := e; have h1 := hp.1.1; rw [e'] at h1; exact absurd h1 (by decide)
  | .t3 h a b c, hp => fun e => by have e' : h.k = 4 := e; have h1 := hp.1.1; rw [e'] at h1; exact absurd h1 (by decide)
  | .t2 h a b, hp => by
    simp only [spineT]
    split
    · exact spD_head a hp.2.1
    · rename_i e
      exact e
end Go.Proofs.YtbgibiongnhjoaaGreat

/- What FnSpine asks of the drawn term's parts. No program is walked here. -/
namespace Go.Proofs.YtbgibiongnhjoaaGreat
open Go.ChangeShapes Go.WideShapes Go.ChangeAt Go.RowKit

theorem all_flat {P : Hd → Nat → Prop} : ∀ (T : Tt) (o : Nat), (∀ td ∈ T.flat o, P td.hd td.kids.length) → T.all P
  | .t0 h, o, hm => hm (h.td []) (by simp [Tt.flat])
  | .t1 h a, o, hm => ⟨hm (h.td [_]) (by simp only [Tt.flat]; exact List.mem_append_right _ (List.mem_singleton.2 rfl)), all_flat a o (fun td q => hm td (by simp only [Tt.flat]; exact List.mem_append_left _ q))⟩
  | .t2 h a b, o, hm => ⟨hm (h.td [_, _]) (by simp only [Tt.flat]; exact List.mem_append_right _ (List.mem_singleton.2 rfl)), all_flat a o (fun td q => hm td (by simp only [Tt.flat]; exact List.mem_append_left _ (List.mem_append_left _ q))), all_flat b _ (fun td q => hm td (by simp only [Tt.flat]; exact List.mem_append_left _ (List.mem_append_right _ q)))⟩
  | .t3 h a b c, o, hm => ⟨hm (h.td [_, _, _]) (by simp only [Tt.flat]; exact List.mem_append_right _ (List.mem_singleton.2 rfl)), all_flat a o (fun td q => hm td (by simp only [Tt.flat]; exact List.mem_append_left _ (List.mem_append_left _ (List.mem_append_left _ q)))), all_flat b _ (fun td q => hm td (by simp only [Tt.flat]; exact List.mem_append_left _ (List.mem_append_left _ (List.mem_append_right _ q)))), all_flat c _ (fun td q => hm td (by simp only [Tt.flat]; exact List.mem_append_left _ (List.mem_append_right _ q)))⟩
/-- A head that is small. -/
def szP (h : Hd) (_ : Nat) : Prop := h.s.size ≤ 1000 ∧ h.lv.length ≤ 3 ∧ (∀ l ∈ h.lv, lvlB l = true ∨ (l.length ≤ 1000 ∧ SmallS l)) ∧ ∀ l ∈ h.lv, lvlB l = true ∨ ∃ σ, l = anyN σ
/-- What the walks ask of a node. -/
def SzT (td : Td) : Prop := TLens td ∧ TSmall td ∧ (spell td.lv).length ≤ 1000000000
theorem szt_flat {T : Tt} (h : T.all szP) : ∀ td ∈ T.flat 0, SzT td := fun td hm => by
  obtain ⟨h1, h2, h3, h4, h5⟩ := flat_mem T 0 h td hm
  exact sz_of ⟨h2, h3, by omega⟩ h4 h5
theorem szt_spine {ρ : Pl} (hq : LvQ (spT ρ)) : ∀ td ∈ spT ρ, SzT td := fun td hm => sz_of (few_spine ρ td hm) (hq td hm) (lve_spine ρ td hm)
theorem szp_spine {ρ : Pl} {T : Tt} (hT : T.flat 0 = spT ρ) (hq : LvQ (spT ρ)) : T.all szP := all_flat T 0 (fun td hm => by
  rw [hT] at hm
  obtain ⟨h1, h2, h3⟩ := few_spine ρ td hm
  exact ⟨h1, h2, hq td hm, lve_spine ρ td hm⟩)
/-- The parts of a valid drawn term: valid, small, the head no application, and joined again the term. -/
theorem spine_parts {ρ : Pl} {T : Tt} (hT : T.flat 0 = spT ρ) (hv : termB (spT ρ) = true) (ha : T.all nodeP) (hq : LvQ (spT ρ)) :
    termB ((spineT T).1.flat 0) = true ∧ (∀ l ∈ (spineT T).2.map (fun x => x.flat 0), termB l = true) ∧ (∀ td ∈ (spineT T).1.flat 0, SzT td) ∧ (∀ l ∈ (spineT T).2.map (fun x => x.flat 0), ∀ td ∈ l, SzT td) ∧ (spineT T).2.length ≤ 20000 ∧ (spineT T).1.hd.k ≠ 4 ∧ appsR (spineT T).1 (spineT T).2 = T ∧ T.cnt ≤ 20000 := by
  have hc : T.cnt ≤ 20000 := by rw [← T.flat_len 0, hT]; exact len_of hv
  obtain ⟨a1, a2⟩ := spD_all ha
  obtain ⟨b1, b2⟩ := spD_all (szp_spine hT hq)
  obtain ⟨c1, c2⟩ := spD_cnt T
  have hl := spD_len T
  refine ⟨flat_term a1 (by omega), fun l hm => ?_, szt_flat b1, fun l hm => ?_, by omega, spD_head T ha, spine_apps T ha, hc⟩
  · obtain ⟨x, hx, rfl⟩ := List.mem_map.1 hm
    exact flat_term (a2 x hx) (by have := c2 x hx; omega)
  · obtain ⟨x, hx, rfl⟩ := List.mem_map.1 hm
    exact szt_flat (b2 x hx)
end Go.Proofs.YtbgibiongnhjoaaGreat

/- What the specification's TermOk answers. -/
namespace Go.Proofs.YtbgibiongnhjoaaGreat
open Go.ChangeShapes Go.WideShapes Go.ChangeAt Go.RowKit

set_option maxHeartbeats 1000000 in
theorem specTermOk_any (v : Value) (ts : List Td) (w : World) (hns : TNodesAt w v ts) (hsz : ∀ td ∈ ts, TLens td) (hlv : ∀ td ∈ ts, td.lv.length ≤ 1048576) :
    Calls Tryz.prog 43 #[.agg #[v]] w fun e w' => e = .returned (.bool (termB ts)) ∧ Below w.heap.size w w' := by
  have HN := hide hns
  have HZ := hide hsz
  have HL := hide hlv
  obtain ⟨a, cap, rfl, _, _, _⟩ := hns
  clear hsz hlv
  go_enter Tryz.func43, Tryz.ntmps43
  go_wp2_with fail
  refine (l3TreeF_any _ ts _ (HN.out.keep (bel_alloc (Below.refl _ _) _)) HZ.out HL.out).mono ?_
  rintro e w1 ⟨(⟨hl, rfl⟩ | ⟨hl, _, pt, Q, rfl, _⟩), hb⟩
  · have hbel := (bel_alloc (Below.refl w.heap.size w) _).trans (hb.mono (by simp))
    go_wp2_with (go_at_call 48; refine (tnone_none _).mono ?_; rintro e w' ⟨rfl, rfl⟩)
    go_ret
    exact ⟨by simp [hl], hbel⟩
  · have hbel := (bel_alloc (Below.refl w.heap.size w) _).trans (hb.mono (by simp))
    go_wp2_with (go_at_call 48; refine (tnone_some _ _).mono ?_; rintro e w' ⟨rfl, rfl⟩)
    go_ret
    exact ⟨by simp [hl], hbel⟩
end Go.Proofs.YtbgibiongnhjoaaGreat

/- slices.Reverse at the store's nodes, as the library's shelf has it, laid at this program. -/
namespace Go.Proofs
open Go.Shelf Go.Lib Go.Sort Go.RowKit
shelf_lay_g SlLaysE.n35 Slgn 35 at Tryz 99 as Tryz.lays99
end Go.Proofs
namespace Go.Proofs.YtbgibiongnhjoaaGreat
open Go.ChangeShapes Go.WideShapes Go.ChangeAt Go.RowKit Go.Sort Go.Shelf Go.Lib

theorem rev_some (blk off cap : Nat) (zs : List Nat) (w : World) (hH : Holds ptrV w blk off zs.toArray) (hsz : zs.length ≤ 9223372036854775807) :
    Calls Tryz.prog 99 #[.slice (some ⟨blk, off, none⟩) zs.length cap] w fun e w' => e = .returned (.tuple #[]) ∧ ∃ n, w' = putRow ptrV (Sort.ahead w n) blk off zs.reverse.toArray := by
  have h := AnyE.slices_Reverse Tryz.lays99 ptrV (fun _ => rfl) blk off cap zs w hH hsz
  change Calls Tryz.prog 99 _ _ _ at h
  exact h
theorem rev_none (a : Option Addr) (cap : Nat) (w : World) : Calls Tryz.prog 99 #[.slice a 0 cap] w fun e w' => e = .returned (.tuple #[]) ∧ w' = w := by
  have h := AnyE.slices_Reverse_empty Tryz.lays99 a cap w
  change Calls Tryz.prog 99 _ _ _ at h
  exact h
end Go.Proofs.YtbgibiongnhjoaaGreat

/- What the comparing of two terms (eqTerm and what it calls) answers at two terms with the same nodes: true; nothing that was there is written. -/
namespace Go.Proofs.YtbgibiongnhjoaaGreat
open Go.ChangeShapes Go.WideShapes Go.ChangeAt Go.RowKit

set_option maxHeartbeats 1000000 in
theorem eqLevelS_any (v1 v2 : Value) (ls : List (List Nd)) (w : World) (h1 : LevsAt w v1 ls) (h2 : LevsAt w v2 ls) :
    Calls Tryz.prog 37 #[v1, v2] w fun e w' => e = .returned (.bool true) ∧ Below w.heap.size w w' := by
  obtain ⟨a1, cap1, rfl, hl1, hm1, hc1⟩ := h1
  obtain ⟨a2, cap2, rfl, hl2, hm2, hc2⟩ := h2
  unfold maxLen at hm1 hm2
  have H1 : Hid (0 < ls.length → ∃ b off, a1 = some ⟨b, off, none⟩ ∧ ∀ i (h : i < ls.length), ∃ u, w.cell? ⟨b, off + i, none⟩ = some u ∧ NodesAt w u ls[i]) := hc1
  have H2 : Hid (0 < ls.length → ∃ b off, a2 = some ⟨b, off, none⟩ ∧ ∀ i (h : i < ls.length), ∃ u, w.cell? ⟨b, off + i, none⟩ = some u ∧ NodesAt w u ls[i]) := hc2
  clear hc1 hc2
  go_enter Tryz.func37, Tryz.ntmps37
  go_wp2_with fail
  go_loopw [5] (fun i wr => ∃ (k : Nat), k ≤ ls.length ∧ i = .int .i64 k ∧ Below w.heap.size w wr) (fun i _ => ls.length - (intOf i).toNat)
  case atStart => exact ⟨0, by omega, rfl, Below.refl _ _⟩
  case round =>
    obtain ⟨k, hk, rfl, hbel⟩ := hrel
    by_cases hlt : k < ls.length
    · obtain ⟨b1, o1, rfl, c1⟩ := H1.out (by omega)
      obtain ⟨b2, o2, rfl, c2⟩ := H2.out (by omega)
      obtain ⟨u1, p1, p2⟩ := c1 k hlt
      obtain ⟨u2, q1, q2⟩ := c2 k hlt
      have p1' := keep_cell hbel p1
      have q1' := keep_cell hbel q1
      have P2 := hide (p2.keep hbel)
      have Q2 := hide (q2.keep hbel)
      have hlt' : (k : Int) < ls.length := by omega
      clear c1 c2 H1 H2 p1 q1
      generalize ls[k] = ns at *
      obtain ⟨ua, uc, rfl, _, _, _⟩ := p2
      obtain ⟨va, vc, rfl, _, _, _⟩ := q2
      go_wp2_with fail
      go_region_with (go_at_call 74; refine (eqLevel_any _ _ ns _ ?_ ?_).mono ?_; exact P2.out.keep (below_drewN (Below.refl _ _) _); exact Q2.out.keep (below_drewN (Below.refl _ _) _); rintro e w1 ⟨rfl, hb⟩)
      all_goals
        go_wp2_with fail
        go_roundw
        case rel => exact ⟨k + 1, by omega, by go_num, hbel.drew.trans (hb.mono hbel.size)⟩
        case measure => simp [intOf]; omega
    · go_wp2_with fail
      go_ret
      exact ⟨rfl, hbel⟩

set_option maxHeartbeats 1000000 in
theorem eqNode_any (td : Td) (l1 k1 l2 k2 : Value) (w : World) (hl1 : LevsAt w l1 td.lv) (hl2 : LevsAt w l2 td.lv) (h1 : IntsAt w k1 td.kids) (h2 : IntsAt w k2 td.kids) :
    Calls Tryz.prog 104 #[.agg #[.int .i64 td.k, .int .i64 td.n, .int .i64 td.m, .string td.s, l1, k1], .agg #[.int .i64 td.k, .int .i64 td.n, .int .i64 td.m, .string td.s, l2, k2]] w fun e w' => e = .returned (.bool true) ∧ Below w.heap.size w w' := by
  have b2 : ∀ o1 o2, Below w.heap.size w ((w.alloc o1).alloc o2) := fun o1 o2 => (((Below.refl w.heap.size w).alloc (Nat.le_refl _) o1).alloc (by simp) o2)
  have H1 : Hid (∀ o1 o2, IntsAt ((w.alloc o1).alloc o2) k1 td.kids) := fun o1 o2 => h1.keep (b2 o1 o2)
  have H2 : Hid (∀ o1 o2, IntsAt ((w.alloc o1).alloc o2) k2 td.kids) := fun o1 o2 => h2.keep (b2 o1 o2)
  have L1 : Hid (∀ o1 o2, LevsAt ((w.alloc o1).alloc o2) l1 td.lv) := fun o1 o2 => hl1.keep (b2 o1 o2)
  have L2 : Hid (∀ o1 o2, LevsAt ((w.alloc o1).alloc o2) l2 td.lv) := fun o1 o2 => hl2.keep (b2 o1 o2)
  have HB2 := hide b2
  obtain ⟨a1, cap1, rfl, _, _, _⟩ := h1
  obtain ⟨a2, cap2, rfl, _, _, _⟩ := h2
  obtain ⟨la1, lc1, rfl, _, _, _⟩ := hl1
  obtain ⟨la2, lc2, rfl, _, _, _⟩ := hl2
  clear b2
  go_enter Tryz.func104, Tryz.ntmps104
  go_wp2_with fail
  refine (eqLevelS_any _ _ td.lv _ (L1.out _ _) (L2.out _ _)).mono ?_
  rintro e w1 ⟨rfl, hb⟩
  have x1 : w1.cell? ⟨w.heap.size, 5, none⟩ = some (.slice a1 td.kids.length cap1) := keep_cell hb (by simp [go_sem])
  have x2 : w1.cell? ⟨w.heap.size + 1, 5, none⟩ = some (.slice a2 td.kids.length cap2) := keep_cell hb (by simp [go_sem])
  have HB := hide hb
  clear hb
  go_wp2_with (go_at_call 152; refine (eqIntS_any _ _ td.kids _ ((H1.out _ _).keep HB.out) ((H2.out _ _).keep HB.out)).mono ?_; rintro e w2 ⟨rfl, n, rfl⟩)
  go_ret
  exact ⟨rfl, below_drewN ((HB2.out _ _).trans (HB.out.mono (by simp; omega))) n⟩

set_option maxHeartbeats 1000000 in
theorem eqNodeS_any (v1 v2 : Value) (ts : List Td) (w : World) (h1 : TNodesAt w v1 ts) (h2 : TNodesAt w v2 ts) :
    Calls Tryz.prog 56 #[v1, v2] w fun e w' => e = .returned (.bool true) ∧ Below w.heap.size w w' := by
  obtain ⟨a1, cap1, rfl, hl1, hm1, hc1⟩ := h1
  obtain ⟨a2, cap2, rfl, hl2, hm2, hc2⟩ := h2
  unfold maxLen at hm1 hm2
  have H1 : Hid (0 < ts.length → ∃ b off, a1 = some ⟨b, off, none⟩ ∧ ∀ i (h : i < ts.length), TNodeAt w b (off + i * 6) ts[i]) := hc1
  have H2 : Hid (0 < ts.length → ∃ b off, a2 = some ⟨b, off, none⟩ ∧ ∀ i (h : i < ts.length), TNodeAt w b (off + i * 6) ts[i]) := hc2
  clear hc1 hc2
  go_enter Tryz.func56, Tryz.ntmps56
  go_wp2_with fail
  go_loopw [5] (fun i wr => ∃ (k : Nat), k ≤ ts.length ∧ i = .int .i64 k ∧ Below w.heap.size w wr) (fun i _ => ts.length - (intOf i).toNat)
  case atStart => exact ⟨0, by omega, rfl, Below.refl _ _⟩
  case round =>
    obtain ⟨k, hk, rfl, hbel⟩ := hrel
    by_cases hlt : k < ts.length
    · obtain ⟨b1, o1, rfl, c1⟩ := H1.out (by omega)
      obtain ⟨b2, o2, rfl, c2⟩ := H2.out (by omega)
      have n1 := (c1 k hlt).keep hbel
      have n2 := (c2 k hlt).keep hbel
      have hlt' : (k : Int) < ts.length := by omega
      clear c1 c2 H1 H2
      generalize ts[k] = td at *
      obtain ⟨p1, p2, p3, p4, l1, p5, hl1', k1, p6, hk1⟩ := n1
      obtain ⟨q1, q2, q3, q4, l2, q5, hl2', k2, q6, hk2⟩ := n2
      have L1 := hide hl1'
      have L2 := hide hl2'
      have K1 := hide hk1
      have K2 := hide hk2
      obtain ⟨la1, lc1, rfl, _, _, _⟩ := hl1'
      obtain ⟨la2, lc2, rfl, _, _, _⟩ := hl2'
      obtain ⟨ka1, kc1, rfl, _, _, _⟩ := hk1
      obtain ⟨ka2, kc2, rfl, _, _, _⟩ := hk2
      go_wp2_with fail
      go_region_with (go_at_call 104; refine (eqNode_any td _ _ _ _ _ ?_ ?_ ?_ ?_).mono ?_; exact L1.out.keep (below_drewN (Below.refl _ _) _); exact L2.out.keep (below_drewN (Below.refl _ _) _); exact K1.out.keep (below_drewN (Below.refl _ _) _); exact K2.out.keep (below_drewN (Below.refl _ _) _); rintro e w1 ⟨rfl, hb⟩)
      all_goals
        go_wp2_with fail
        go_roundw
        case rel => exact ⟨k + 1, by omega, by go_num, hbel.drew.trans (hb.mono hbel.size)⟩
        case measure => simp [intOf]; omega
    · go_wp2_with fail
      go_ret
      exact ⟨rfl, hbel⟩

set_option maxHeartbeats 1000000 in
theorem eqTerm_any (v1 v2 : Value) (ts : List Td) (w : World) (h1 : TNodesAt w v1 ts) (h2 : TNodesAt w v2 ts) :
    Calls Tryz.prog 16 #[.agg #[v1], .agg #[v2]] w fun e w' => e = .returned (.bool true) ∧ Below w.heap.size w w' := by
  have H1 : Hid (∀ o1 o2, TNodesAt ((w.alloc o1).alloc o2) v1 ts) := fun o1 o2 => h1.keep (((Below.refl w.heap.size w).alloc (Nat.le_refl _) o1).alloc (by simp) o2)
  have H2 : Hid (∀ o1 o2, TNodesAt ((w.alloc o1).alloc o2) v2 ts) := fun o1 o2 => h2.keep (((Below.refl w.heap.size w).alloc (Nat.le_refl _) o1).alloc (by simp) o2)
  obtain ⟨a1, cap1, rfl, _, _, _⟩ := h1
  obtain ⟨a2, cap2, rfl, _, _, _⟩ := h2
  go_enter Tryz.func16, Tryz.ntmps16
  go_wp2_with (go_at_call 56; refine (eqNodeS_any _ _ ts _ (H1.out _ _) (H2.out _ _)).mono ?_; rintro e w1 ⟨rfl, hb⟩)
  go_ret
  exact ⟨rfl, (((Below.refl w.heap.size w).alloc (Nat.le_refl _) _).alloc (by simp) _).trans (hb.mono (by simp; omega))⟩
end Go.Proofs.YtbgibiongnhjoaaGreat
