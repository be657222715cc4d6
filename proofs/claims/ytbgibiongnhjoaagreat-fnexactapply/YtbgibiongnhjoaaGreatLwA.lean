/- What a law of a function that answers a term and a code keeps in sight: the answers, the boxes. How many marks an answer takes. No program is walked here. -/
import Derived.Test.YtbgibiongnhjoaaGreatSpF
import Derived.Test.YtbgibiongnhjoaaGreatHeB
namespace Go.Proofs.YtbgibiongnhjoaaGreat
open Go.ChangeShapes Go.WideShapes Go.ChangeAt Go.RowKit

theorem spell_of {ts : List Td} (h : tmSize ts ≤ 1048576) : ∀ td ∈ ts, (spell td.lv).length ≤ 1000000000 := by
  intro td htd
  have h1 := sumL_mem tdSize htd
  unfold tmSize at h
  have h2 : tdSize td = td.s.size + (td.lv.length + sumL lvSize td.lv) + td.kids.length := rfl
  have h3 := spell_len td.lv
  omega
/-- What each node of an answer keeps to. -/
def smP (h : Hd) (_ : Nat) : Prop := (∀ l ∈ h.lv, lvlB l = true) ∧ h.lv.length ≤ 6
theorem node_sm (h : Hd) (c : Nat) (hp : nodeP h c) : smP h c := ⟨lev_of hp.2, (lv_small hp).1⟩
theorem flat_mem {P : Hd → Nat → Prop} : ∀ (T : Tt) (o : Nat), T.all P → ∀ td ∈ T.flat o, td.kids.length ≤ 3 ∧ P td.hd td.kids.length
  | .t0 h, o, hp, td, hm => by
    simp only [Tt.flat, List.mem_singleton] at hm
    subst hm
    exact ⟨by simp [Hd.td], hp⟩
  | .t1 h a, o, hp, td, hm => by
    simp only [Tt.flat, List.mem_append, List.mem_singleton] at hm
    rcases hm with hm | rfl
    · exact flat_mem a _ hp.2 td hm
    · exact ⟨by simp [Hd.td], hp.1⟩
  | .t2 h a b, o, hp, td, hm => by
    simp only [Tt.flat, List.mem_append, List.mem_singleton] at hm
    rcases hm with (hm | hm) | rfl
    · exact flat_mem a _ hp.2.1 td hm
    · exact flat_mem b _ hp.2.2 td hm
    · exact ⟨by simp [Hd.td], hp.1⟩
  | .t3 h a b c, o, hp, td, hm => by
    simp only [Tt.flat, List.mem_append, List.mem_singleton] at hm
    rcases hm with ((hm | hm) | hm) | rfl
    · exact flat_mem a _ hp.2.1 td hm
    · exact flat_mem b _ hp.2.2.1 td hm
    · exact flat_mem c _ hp.2.2.2 td hm
    · exact ⟨by simp [Hd.td], hp.1⟩
theorem costN_two {l : List Nd} (h : ∀ nd ∈ l, nd.kids.length ≤ 2) : costN l ≤ 4 * l.length := by
  induction l with
  | nil => simp [costN]
  | cons x a ih =>
    have h1 := h x (by simp)
    have h2 := ih (fun nd hm => h nd (by simp [hm]))
    simp only [costN, List.length_cons]
    omega
theorem costLs_lvl {ls : List (List Nd)} (h : ∀ l ∈ ls, lvlB l = true) : costLs ls ≤ 256 * ls.length := by
  induction ls with
  | nil => simp [costLs]
  | cons x a ih =>
    obtain ⟨h1, h2⟩ := lvl_small (h x (by simp))
    have h3 := costN_two h2
    have h4 := ih (fun l hm => h l (by simp [hm]))
    simp only [costLs, List.length_cons]
    omega
theorem costT_each {c : Nat} {ts : List Td} (h : ∀ td ∈ ts, 4 + costLs td.lv + td.kids.length ≤ c) : costT ts ≤ c * ts.length := by
  induction ts with
  | nil => simp [costT]
  | cons x a ih =>
    have h1 := h x (by simp)
    have h2 := ih (fun td hm => h td (by simp [hm]))
    simp only [costT, List.length_cons, Nat.mul_add, Nat.mul_one]
    omega
/-- What an answer keeps to. -/
def AnsOk (r : List Td × Int) : Prop := r.1 = [] ∨ ∃ T : Tt, r.1 = T.flat 0 ∧ T.cnt ≤ 20000 ∧ T.all smP
theorem AnsOk.small {r : List Td × Int} (h : AnsOk r) : (∀ td ∈ r.1, TSmall td) ∧ r.1.length ≤ 20000 ∧ costT r.1 ≤ 31000000 := by
  rcases h with h | ⟨T, h1, h2, h3⟩
  · rw [h]; exact ⟨fun td hm => by simp at hm, by simp, by simp [costT]⟩
  · rw [h1]
    have hm := flat_mem T 0 h3
    have hl := T.flat_len 0
    refine ⟨fun td htd => ?_, by omega, ?_⟩
    · obtain ⟨q1, q2, q3⟩ := hm td htd
      refine ⟨by have : td.lv.length ≤ 6 := q3; omega, fun l hl => ?_, by omega⟩
      obtain ⟨p1, p2⟩ := lvl_small (q2 l hl)
      exact ⟨by omega, fun nd hnd => by have := p2 nd hnd; omega⟩
    · have := costT_each (c := 1543) (ts := T.flat 0) (fun td htd => by
        obtain ⟨q1, q2, q3⟩ := hm td htd
        have h4 := costLs_lvl (ls := td.lv) q2
        have h5 : td.lv.length ≤ 6 := q3
        omega)
      rw [hl] at this
      omega
theorem ansOk_fit {T : Tt} (h : T.all smP) : AnsOk (ansT (fitT T)) := by
  unfold fitT sizedT
  split
  · exact .inl rfl
  · split
    · exact .inr ⟨T, rfl, by assumption, h⟩
    · exact .inl rfl

/-- A term to be read in each world that keeps the blocks of a range. -/
def FrR (lo hi : Nat) (w : World) (v : Value) (ts : List Td) : Prop := ∀ w' : World, (∀ b : Nat, lo ≤ b → b < hi → w'.heap[b]? = w.heap[b]?) → TNodesAt w' v ts
theorem FrT.range {B : Nat} {w : World} {v : Value} {ts : List Td} (h : FrT B w v ts) : FrR B w.heap.size w v ts := fun w' hw => h w' hw
theorem FrR.at {lo hi : Nat} {w : World} {v : Value} {ts : List Td} (h : FrR lo hi w v ts) : TNodesAt w v ts := h w (fun _ _ _ => rfl)
theorem FrR.same {lo hi : Nat} {w w2 : World} {v : Value} {ts : List Td} (h : FrR lo hi w v ts) (hh : ∀ b : Nat, lo ≤ b → b < hi → w2.heap[b]? = w.heap[b]?) : FrR lo hi w2 v ts := fun w' hw => h w' (fun b q1 q2 => by rw [hw b q1 q2, hh b q1 q2])
/-- What stays known: the two answers, and the boxes. -/
structure LwS (w cur : World) (bs : List (Nat × Value)) (lo4 hi4 lo6 hi6 : Nat) (v4 v6 : Value) (ws gs : List Td) : Prop where
  bel : Below w.heap.size w cur
  big : hi4 ≤ cur.heap.size ∧ hi6 ≤ cur.heap.size
  a4 : FrR lo4 hi4 cur v4 ws
  a6 : TmV lo6 hi6 cur v6 gs
  box : ∀ p ∈ bs, cur.cell? ⟨p.1, 0, none⟩ = some p.2
theorem LwS.keep {w cur cur' : World} {bs : List (Nat × Value)} {lo4 hi4 lo6 hi6 : Nat} {v4 v6 : Value} {ws gs : List Td} (h : LwS w cur bs lo4 hi4 lo6 hi6 v4 v6 ws gs) (hb : Below cur.heap.size cur cur') : LwS w cur' bs lo4 hi4 lo6 hi6 v4 v6 ws gs :=
  ⟨bel_trans h.bel hb, by have := hb.size; have := h.big; omega, h.a4.same (fun b _ q => hb.block b (by have := h.big; omega)), h.a6.keep hb h.big.2, fun p hp => keep_cell hb (h.box p hp)⟩
theorem LwS.chg {w cur cur' : World} {bs : List (Nat × Value)} {lo4 hi4 lo6 hi6 lo hi : Nat} {v4 v6 : Value} {ws gs : List Td} (h : LwS w cur bs lo4 hi4 lo6 hi6 v4 v6 ws gs) (hc : Chg lo hi cur cur') (hw : w.heap.size ≤ lo) (h4 : hi4 ≤ lo ∨ hi ≤ lo4) (h6 : hi6 ≤ lo ∨ hi ≤ lo6) (hbs : ∀ p ∈ bs, p.1 < lo ∨ hi ≤ p.1) : LwS w cur' bs lo4 hi4 lo6 hi6 v4 v6 ws gs :=
  ⟨h.bel.trans (hc.1.mono (by omega)), by have := hc.1.size; have := h.big; omega, h.a4.same (fun b q1 q2 => hc.out (by omega) (by have := h.big; omega)), h.a6.same (fun b q1 q2 => hc.out (by omega) (by have := h.big; omega)), fun p hp => hc.cell (hbs p hp) (h.box p hp)⟩
/-- The answer itself is marked. -/
theorem LwS.mark {w cur cur' : World} {bs : List (Nat × Value)} {lo4 hi4 lo6 hi6 : Nat} {v4 v6 : Value} {ws gs gs' : List Td} (h : LwS w cur bs lo4 hi4 lo6 hi6 v4 v6 ws gs) (hv : TmV lo6 hi6 cur' v6 gs') (hc : Chg lo6 hi6 cur cur') (hw : w.heap.size ≤ lo6) (h4 : hi4 ≤ lo6 ∨ hi6 ≤ lo4) (hbs : ∀ p ∈ bs, p.1 < lo6 ∨ hi6 ≤ p.1) : LwS w cur' bs lo4 hi4 lo6 hi6 v4 v6 ws gs' :=
  ⟨h.bel.trans (hc.1.mono (by omega)), by have := hc.1.size; have := h.big; omega, h.a4.same (fun b q1 q2 => hc.out (by omega) (by have := h.big; omega)), hv, fun p hp => hc.cell (hbs p hp) (h.box p hp)⟩
end Go.Proofs.YtbgibiongnhjoaaGreat
