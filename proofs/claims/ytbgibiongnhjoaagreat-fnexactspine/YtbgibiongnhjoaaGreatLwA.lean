/- What termOf and sizedTerm answer: a term of the call's own. -/
import Derived.Test.YtbgibiongnhjoaaGreatTeD
import Derived.Test.YtbgibiongnhjoaaGreatSpD
import Derived.Test.YtbgibiongnhjoaaGreatFoB
import Derived.Test.YtbgibiongnhjoaaGreatHeB
namespace Go.Proofs.YtbgibiongnhjoaaGreat
open Go.ChangeShapes Go.WideShapes Go.ChangeAt Go.RowKit

set_option maxRecDepth 20000 in
set_option maxHeartbeats 8000000 in
theorem termOf_any (base Sb mb gb clock : Nat) (L : List (Nk × Nat × Nat)) (Z : Nat → Zs) (H : Nat → Bool) (w : World) (hs : St base w Sb mb gb clock L Z H) (hbase : base ≤ w.heap.size) (T : Tt) (b : Nat) (hT : IsT L T b) (hP : T.all levP) :
    Calls Tryz.prog 55 #[.pointer (some ⟨b, 0, none⟩)] w fun e w' => ∃ g cap, e = .returned (.agg #[.slice (some ⟨g, 0, none⟩) T.cnt cap]) ∧ TmV w.heap.size w'.heap.size w' (.slice (some ⟨g, 0, none⟩) T.cnt cap) (T.flat 0) ∧ Below w.heap.size w w' := by
  have hmf : ∀ (fn : Fn) (first cap : Array Value) (w : World), (Instr.makeFunc fn first cap).run Tryz.prog w = .ok (.func fn first cap) w := fun _ _ _ _ => rfl
  obtain ⟨i67, hi67, hz67, hs67, hb67⟩ := info_parts Tryz.info67
  have hcnt := (ist_lt hs hT).1
  have hz := ist_z hs T.cnt T b (Nat.le_refl _) hT
  obtain ⟨qs, c, hql, hqm, _⟩ := ist_open hT
  obtain ⟨lv, ls, nbt, _⟩ := (hs.ents _ hqm).node
  have nbt : NbAt w b (tmL (keyP T.hd qs) lv (Z b) (H b)) := nbt
  rw [hz] at nbt
  have a9 : w.cell? ⟨b, 9, none⟩ = some (.int .i64 T.cnt) := by rw [nbt.cell 9 (by omega)]; show some (Value.int .i64 T.z.sz) = _; rw [T.z_sz]
  have hbl := lt_cell a9
  have HF := hide (fun (nb : Nat) (hnb : w.heap.size ≤ nb) (W : World) (hW : Below w.heap.size w W) (ht : TmAt w.heap.size nb W []) => foldT_all base Sb mb gb clock L Z H w hs hbase nb w.heap.size (Nat.le_refl _) hnb T.cnt T b 0 W [] (Nat.le_refl _) hT hP (Int.le_refl _) (by omega) hW ht (by simp; omega))
  have hfl : (T.flat 0).length = T.cnt := T.flat_len 0
  have HFL := hide hfl
  obtain ⟨W1, hW1⟩ : ∃ W1, W1 = w.alloc (.cells #[.slice none 0 0] 28) := ⟨_, rfl⟩
  have hb1 : Below w.heap.size w W1 := by rw [hW1]; exact bel_alloc (Below.refl _ _) _
  have hr1 : W1.heap[w.heap.size]? = some (.cells #[.slice none 0 0] 28 (0, 0)) := by rw [hW1]; exact heap_alloc_new w _
  have a9 := keep_cell hb1 a9
  have hbl := lt_cell a9
  have HB1 := hide hb1
  have HR1 := hide hr1
  have hs1 : w.heap.size < W1.heap.size := (Array.getElem?_eq_some_iff.1 hr1).1
  clear hs hbase hT hP hz hql hqm nbt hb1 hr1 hfl
  go_enter Tryz.func55, Tryz.ntmps55
  go_upto_region 1 with fail
  rw [← hW1]
  clear hW1
  go_wp2_with (first
    | (at_make
       refine wpList_make_own _ rfl _ _ 26 rfl w.heap.size 67 i67 (.agg #[.int .i64 0, .int .i64 0, .int .i64 0, .string ⟨#[]⟩, .slice none 0 0, .slice none 0 0]) 6 Tryz.underlying26 hi67 hz67 hs67 .i64 .i64 (T.cnt : Int) T.cnt rfl rfl (by simp) (by rw [hb67]; omega) (by unfold maxLen; omega) HB1.out.size ?_
       intro w2 hown2 hgrow2
       have hb2 : Below W1.heap.size W1 w2 := (Below.refl _ _).grown hgrow2 (Nat.le_refl _) (fun k hk => by cases hk)
       have hb3 : Below w2.heap.size w2 (w2.alloc (.cells #[.slice (some ⟨W1.heap.size, 0, none⟩) 0 T.cnt] 26)) := bel_alloc (Below.refl _ _) _
       have hh3 : (w2.alloc (.cells #[.slice (some ⟨W1.heap.size, 0, none⟩) 0 T.cnt] 26)).heap[w2.heap.size]? = some (.cells #[.slice (some ⟨W1.heap.size, 0, none⟩) 0 T.cnt] 26 (0, 0)) := heap_alloc_new w2 _
       have HB3 := hide (bel_trans (bel_trans HB1.out hb2) hb3)
       have HR3 : Hid ((w2.alloc (.cells #[.slice (some ⟨W1.heap.size, 0, none⟩) 0 T.cnt] 26)).heap[w.heap.size]? = some (.cells #[.slice none 0 0] 28 (0, 0))) := by
         show _ = _
         rw [hb3.block _ (Nat.lt_of_lt_of_le hs1 hb2.size), hb2.block _ hs1]; exact HR1.out
       have hsz2 := hb2.size
       have HTM : Hid (TmAt w.heap.size w2.heap.size (w2.alloc (.cells #[.slice (some ⟨W1.heap.size, 0, none⟩) 0 T.cnt] 26)) []) := by
         refine ⟨HB3.out.size, W1.heap.size, T.cnt, hh3, [], fun _ => 0, fun _ => 0, row_keep hb3 hown2, ⟨fun i h => by simp at h, fun i j _ h => by simp at h⟩, fun q hq => ⟨?_, fun i h => by simp at h⟩, fun i h => by simp at h⟩
         have e : q = W1.heap.size := by simp [Value.ownBlock] at hq; omega
         subst e
         have := (World.ownsRow.lt hown2 W1.heap.size rfl).2
         have := hb3.size
         omega
       obtain ⟨W3, hW3⟩ : ∃ W3, W3 = w2.alloc (.cells #[.slice (some ⟨W1.heap.size, 0, none⟩) 0 T.cnt] 26) := ⟨_, rfl⟩
       rw [← hW3] at HB3 HR3 HTM
       have hs3 : W3.heap.size = w2.heap.size + 1 := by rw [hW3]; simp
       have hnbl : w2.heap.size < W3.heap.size := by omega
       have HS3 := hide hs3
       clear hown2 hgrow2 hb2 hb3 hh3 hs3)
    | fail)
  rw [← hW3]
  have HC := hide (HF.out w2.heap.size (by have := HB1.out.size; omega) W3 HB3.out HTM.out)
  rw [show (([] : List Td).length + T.cnt : Nat) = T.cnt by simp] at HC
  clear hW3 HF HTM a9 hbl
  generalize hnb : w2.heap.size = nb at *
  have hnw : w.heap.size < nb := by omega
  clear hnb
  refine HC.out.mono ?_
  rintro e w4 ⟨rfl, ⟨hlo4, R, cap, h1, h2⟩, hk4⟩
  have hfl : ([] ++ T.flat ([] : List Td).length : List Td) = T.flat 0 := rfl
  rw [hfl, HFL.out] at h1
  rw [hfl, HFL.out] at h2
  have hr4 : w4.heap[w.heap.size]? = some (.cells #[.slice none 0 0] 28 (0, 0)) := by
    rw [hk4.block _ (by have := HB3.out.size; omega) (by omega) (.inr (fun cs f h => by
      rw [HR3.out] at h
      have h2 := Option.some.inj h
      injection h2 with _ h3 _
      cases h3))]
    exact HR3.out
  have c4 : w4.cell? ⟨nb, 0, none⟩ = some (.slice (some ⟨R, 0, none⟩) T.cnt cap) := by rw [Lib.cell_of_heap h1]; rfl
  have d4 : w4.cell? ⟨w.heap.size, 0, none⟩ = some (.slice none 0 0) := by rw [Lib.cell_of_heap hr4]; rfl
  have f4 : w4.frozen? ⟨w.heap.size, 0, none⟩ = false := Lib.frozen_of_heap hr4 0
  have l4 := lt_cell c4
  have l5 := lt_cell d4
  have HB4 := hide (hk4.below HB3.out HB3.out.size (Nat.le_refl _) (by omega))
  have HV4 := hide h2
  have HR4 := hide hr4
  clear h1 h2 hk4 hr4 hfl HC
  go_wp2_with fail
  refine bodyPost_ret (v := .agg #[.slice (some ⟨R, 0, none⟩) T.cnt cap]) (by simp [results, Tryz.results55, go_sem, d4]) rfl ⟨R, cap, rfl, ?_, ?_⟩
  · rw [size_set]
    exact tmV_off' HV4.out HR4.out (by decide) (fun k hk => Below.heap_setCell w4 _ _ k hk)
  · exact HB4.out.setCell (p := ⟨_, _, _⟩) (by show _ ≤ w.heap.size; omega) _
end Go.Proofs.YtbgibiongnhjoaaGreat

/- What the specification's l3Term and l3Answer answer. -/
namespace Go.Proofs.YtbgibiongnhjoaaGreat
open Go.ChangeShapes Go.WideShapes Go.ChangeAt Go.RowKit

theorem nodes_fr {Q : Nat → Prop} {base : Nat} {w w' : World} {v : Value} {ts : List Td} (h : TmQ Q base w v ts) (hg : ∀ g, v.ownBlock = some g → w'.heap[g]? = w.heap[g]?) (hh : ∀ b : Nat, Q b → b < w.heap.size → w'.heap[b]? = w.heap[b]?) : TNodesAt w' v ts := by
  obtain ⟨xs, h1, h4⟩ := h
  have h1' := row_same (w' := w') h1 hg
  rcases h1'.2 with ⟨h3, h0⟩ | ⟨g, cap, cur, h3, _⟩
  · exact ⟨none, 0, by rw [h3, h0], by omega, by unfold maxLen; omega, fun h => by omega⟩
  · subst h3
    obtain ⟨hc1, hc2⟩ := ownsRow_cap h1'
    refine ⟨_, cap, rfl, hc1, hc2, fun _ => ⟨g, 0, rfl, fun i hi => ?_⟩⟩
    obtain ⟨a, b, c, d, lv, kv, e, f, hv⟩ := h4 i hi
    obtain ⟨v1, v2⟩ := hv w' hh
    rw [Nat.zero_add]
    exact ⟨by rw [h1'.cellAt _ (by omega)]; exact a, by rw [h1'.cellAt _ (by omega)]; exact b, by rw [h1'.cellAt _ (by omega)]; exact c, by rw [h1'.cellAt _ (by omega)]; exact d, lv, by rw [h1'.cellAt _ (by omega)]; exact e, v1, kv, by rw [h1'.cellAt _ (by omega)]; exact f, v2⟩
/-- A term to be read in each world that keeps the blocks from B on. -/
def FrT (B : Nat) (w : World) (v : Value) (ts : List Td) : Prop := ∀ w' : World, (∀ b : Nat, B ≤ b → b < w.heap.size → w'.heap[b]? = w.heap[b]?) → TNodesAt w' v ts
theorem FrT.at {B : Nat} {w : World} {v : Value} {ts : List Td} (h : FrT B w v ts) : TNodesAt w v ts := h w (fun _ _ _ => rfl)
theorem FrT.to {B B' : Nat} {w w2 : World} {v : Value} {ts : List Td} (h : FrT B w v ts) (hB : B' ≤ B) (hs : w.heap.size ≤ w2.heap.size) (hh : ∀ b : Nat, B ≤ b → b < w.heap.size → w2.heap[b]? = w.heap[b]?) : FrT B' w2 v ts := fun w' hw' => h w' (fun b q1 q2 => by rw [hw' b (by omega) (by omega), hh b q1 q2])
theorem FrT.low {B B' : Nat} {w : World} {v : Value} {ts : List Td} (h : FrT B w v ts) (hB : B' ≤ B) {p : Addr} (hp : p.block < B) (u : Value) : FrT B' (w.setCell p u) v ts := h.to hB (by rw [size_set]; exact Nat.le_refl _) (fun b q1 _ => Below.heap_setCell w p u b (by omega))
theorem FrT.form {B : Nat} {w : World} {v : Value} {ts : List Td} (h : FrT B w v ts) : ∃ a cap, v = .slice a ts.length cap := by obtain ⟨a, cap, h1, _⟩ := h.at; exact ⟨a, cap, h1⟩
set_option maxRecDepth 20000 in
set_option maxHeartbeats 4000000 in
theorem l3Term_any (Qs : Nat → Prop) (T : Tt) (p : Nat) (w : World) (hS : SpG Qs w T p) (hP : T.all levP) (hc : T.cnt ≤ 20000) :
    Calls Tryz.prog 50 #[.pointer (some ⟨p, 0, none⟩)] w fun e w' => ∃ v, e = .returned (.agg #[v]) ∧ FrT w.heap.size w' v (T.flat 0) ∧ Below w.heap.size w w' := by
  obtain ⟨W1, hW1⟩ : ∃ W1, W1 = w.alloc (.cells #[.slice none 0 0] 28) := ⟨_, rfl⟩
  obtain ⟨W2, hW2⟩ : ∃ W2, W2 = W1.alloc (.cells #[] 67) := ⟨_, rfl⟩
  have hb1 : Below w.heap.size w W1 := by rw [hW1]; exact bel_alloc (Below.refl _ _) _
  have hb2 : Below W1.heap.size W1 W2 := by rw [hW2]; exact bel_alloc (Below.refl _ _) _
  have hr1 : W1.heap[w.heap.size]? = some (.cells #[.slice none 0 0] 28 (0, 0)) := by rw [hW1]; exact heap_alloc_new w _
  have l1 : w.heap.size < W1.heap.size := (Array.getElem?_eq_some_iff.1 hr1).1
  have HR2 : Hid (W2.heap[w.heap.size]? = some (.cells #[.slice none 0 0] 28 (0, 0))) := by show _ = _; rw [hb2.block _ l1]; exact hr1
  have HB2 := hide (bel_trans hb1 hb2)
  have ho : W2.ownsRow W1.heap.size 67 6 (.slice (some ⟨W1.heap.size, 0, none⟩) 0 0) 0 [] := by
    rw [hW2]
    exact ⟨rfl, .inr ⟨W1.heap.size, 0, #[], rfl, Nat.le_refl _, heap_alloc_new W1 _, Nat.le_refl _, by unfold maxLen; omega, rfl, rfl⟩⟩
  have HC := hide (l3Nodes_all Qs W1 T.cnt T p W2 W1.heap.size 0 [] (fun _ => False) (Nat.le_refl _) (hS.keep hb1) hP hb2 ⟨[], ho, fun i h => by simp at h⟩ (fun b hb => by cases hb) (by simp; omega))
  have hs2 : W1.heap.size < W2.heap.size := by rw [hW2]; simp
  have hs1 : W1.heap.size = w.heap.size + 1 := by rw [hW1]; simp
  have HS1 := hide hs1
  clear hS hP hb1 hb2 hr1 ho hs1
  go_enter Tryz.func50, Tryz.ntmps50
  go_upto_region 1 with fail
  rw [← hW1]
  clear hW1
  go_wp2_with fail
  first | rw [← hW2] | skip
  refine HC.out.mono ?_
  rintro e w3 ⟨g, cap, rfl, htm, hg, hor⟩
  have hne : w.heap.size ≠ W1.heap.size := by have := HS1.out; omega
  have hr3 : w3.heap[w.heap.size]? = some (.cells #[.slice none 0 0] 28 (0, 0)) := by rw [hg.block _ (by omega) (fun e => hne (Option.some.inj e))]; exact HR2.out
  have c3 : w3.cell? ⟨w.heap.size, 0, none⟩ = some (.slice none 0 0) := by rw [Lib.cell_of_heap hr3]; rfl
  have f3 : w3.frozen? ⟨w.heap.size, 0, none⟩ = false := Lib.frozen_of_heap hr3 0
  have l3 := lt_cell c3
  have HB3 : Hid (Below w.heap.size w w3) := HB2.out.grown hg HB2.out.size (fun k hk => by have := Option.some.inj hk; have := HS1.out; omega)
  have hg1 : W1.heap.size ≤ g := by rcases hor with h | h <;> omega
  have HTM : Hid (FrT (w.heap.size + 1) w3 (.slice (some ⟨g, 0, none⟩) T.cnt cap) (T.flat 0)) := by
    show FrT _ _ _ _
    intro w' hw
    have hS1 := HS1.out
    obtain ⟨xs, q1, q2⟩ := htm
    have hgl := (World.ownsRow.lt q1 g rfl).2
    have h2 := nodes_fr (w' := w') ⟨xs, q1, q2⟩ (fun q hq => hw q (by simp [Value.ownBlock] at hq; omega) (by simp [Value.ownBlock] at hq; omega)) (fun b hb hl => hw b (by
      rcases hb with h | h
      · exact absurd h.1 id
      · omega) hl)
    simpa using h2
  clear htm hg hor hr3 HC hne
  have hz : ([] : List Td).length + T.cnt = T.cnt := by simp
  rw [hz]
  clear hz
  go_wp2_with fail
  refine bodyPost_ret (v := .agg #[.slice (some ⟨g, 0, none⟩) T.cnt cap]) (by simp [results, Tryz.results50, go_sem, c3]) rfl ⟨_, rfl, HTM.out.low (by omega) (p := ⟨_, _, _⟩) (by show w.heap.size < _; omega) _, ?_⟩
  exact HB3.out.setCell (p := ⟨_, _, _⟩) (by show _ ≤ w.heap.size; omega) _
end Go.Proofs.YtbgibiongnhjoaaGreat

/- What the program's Lift answers. -/
namespace Go.Proofs.YtbgibiongnhjoaaGreat
open Go.ChangeShapes Go.WideShapes Go.ChangeAt Go.RowKit

/-- A term's tree. -/
def TreeFor (ts : List Td) (T : Tt) : Prop := termB ts = true → T.flat 0 = ts ∧ T.all nodeP
theorem tree_for (ts : List Td) : ∃ T, TreeFor ts T := by
  by_cases h : termB ts = true
  · obtain ⟨T, h1, h2, _⟩ := tree_of h
    exact ⟨T, fun _ => ⟨h1, h2⟩⟩
  · exact ⟨varT 0, fun h2 => absurd h2 h⟩
end Go.Proofs.YtbgibiongnhjoaaGreat

/- What the specification's l3Answer and Lift answer. -/
namespace Go.Proofs.YtbgibiongnhjoaaGreat
open Go.ChangeShapes Go.WideShapes Go.ChangeAt Go.RowKit

/-- The root that l3Tree answers. -/
theorem tree_root {ts : List Td} {T : Tt} {pt : Nat → Nat} {Q : Nat → Prop} {w' : World} (ht : termB ts = true) (hk : KidsIn ts ts.length) (F : Forest Q w' pt ts ts.length) (hT : TreeFor ts T) : SpG (fun b => b < w'.heap.size) w' T (pt (ts.length - 1)) ∧ T.cnt ≤ 20000 := by
  obtain ⟨hfl, hP⟩ := hT ht
  have hc : T.cnt ≤ 20000 := by rw [← T.flat_len 0, hfl]; exact len_of ht
  exact ⟨((forest_root hk F hfl).toG (all_mono node_var hP) hc).weak (fun b hb _ => hb), hc⟩
end Go.Proofs.YtbgibiongnhjoaaGreat

/- What a law of a function that answers a term and a code keeps in sight: the answers, the boxes. How many marks an answer takes. No program is walked here. -/
namespace Go.Proofs.YtbgibiongnhjoaaGreat
open Go.ChangeShapes Go.WideShapes Go.ChangeAt Go.RowKit

theorem spell_of {ts : List Td} (h : tmSize ts ≤ 1048576) : ∀ td ∈ ts, (spell td.lv).length ≤ 1000000000 := by
  intro td htd
  have h1 := sumL_mem tdSize htd
  unfold tmSize at h
  have h2 : tdSize td = td.s.size + (td.lv.length + sumL lvSize td.lv) + td.kids.length := rfl
  have h3 := spell_len td.lv
  omega
/-- What each node of an answer keeps to. -/
def smP (h : Hd) (_ : Nat) : Prop := (∀ l ∈ h.lv, lvlB l = true) ∧ h.lv.length ≤ 6
theorem node_sm (h : Hd) (c : Nat) (hp : nodeP h c) : smP h c := ⟨lev_of hp.2, (lv_small hp).1⟩
theorem flat_mem {P : Hd → Nat → Prop} : ∀ (T : Tt) (o : Nat), T.all P → ∀ td ∈ T.flat o, td.kids.length ≤ 3 ∧ P td.hd td.kids.length
  | .t0 h, o, hp, td, hm => by
    simp only [Tt.flat, List.mem_singleton] at hm
    subst hm
    exact ⟨by simp [Hd.td], hp⟩
  | .t1 h a, o, hp, td, hm => by
    simp only [Tt.flat, List.mem_append, List.mem_singleton] at hm
    rcases hm with hm | rfl
    · exact flat_mem a _ hp.2 td hm
    · exact ⟨by simp [Hd.td], hp.1⟩
  | .t2 h a b, o, hp, td, hm => by
    simp only [Tt.flat, List.mem_append, List.mem_singleton] at hm
    rcases hm with (hm | hm) | rfl
    · exact flat_mem a _ hp.2.1 td hm
    · exact flat_mem b _ hp.2.2 td hm
    · exact ⟨by simp [Hd.td], hp.1⟩
  | .t3 h a b c, o, hp, td, hm => by
    simp only [Tt.flat, List.mem_append, List.mem_singleton] at hm
    rcases hm with ((hm | hm) | hm) | rfl
    · exact flat_mem a _ hp.2.1 td hm
    · exact flat_mem b _ hp.2.2.1 td hm
    · exact flat_mem c _ hp.2.2.2 td hm
    · exact ⟨by simp [Hd.td], hp.1⟩
theorem costN_two {l : List Nd} (h : ∀ nd ∈ l, nd.kids.length ≤ 2) : costN l ≤ 4 * l.length := by
  induction l with
  | nil => simp [costN]
  | cons x a ih =>
    have h1 := h x (by simp)
    have h2 := ih (fun nd hm => h nd (by simp [hm]))
    simp only [costN, List.length_cons]
    omega
theorem costLs_lvl {ls : List (List Nd)} (h : ∀ l ∈ ls, lvlB l = true) : costLs ls ≤ 256 * ls.length := by
  induction ls with
  | nil => simp [costLs]
  | cons x a ih =>
    obtain ⟨h1, h2⟩ := lvl_small (h x (by simp))
    have h3 := costN_two h2
    have h4 := ih (fun l hm => h l (by simp [hm]))
    simp only [costLs, List.length_cons]
    omega
theorem costT_each {c : Nat} {ts : List Td} (h : ∀ td ∈ ts, 4 + costLs td.lv + td.kids.length ≤ c) : costT ts ≤ c * ts.length := by
  induction ts with
  | nil => simp [costT]
  | cons x a ih =>
    have h1 := h x (by simp)
    have h2 := ih (fun td hm => h td (by simp [hm]))
    simp only [costT, List.length_cons, Nat.mul_add, Nat.mul_one]
    omega
/-- What an answer keeps to. -/
def AnsOk (r : List Td × Int) : Prop := r.1 = [] ∨ ∃ T : Tt, r.1 = T.flat 0 ∧ T.cnt ≤ 20000 ∧ T.all smP
theorem AnsOk.small {r : List Td × Int} (h : AnsOk r) : (∀ td ∈ r.1, TSmall td) ∧ r.1.length ≤ 20000 ∧ costT r.1 ≤ 31000000 := by
  rcases h with h | ⟨T, h1, h2, h3⟩
  · rw [h]; exact ⟨fun td hm => by simp at hm, by simp, by simp [costT]⟩
  · rw [h1]
    have hm := flat_mem T 0 h3
    have hl := T.flat_len 0
    refine ⟨fun td htd => ?_, by omega, ?_⟩
    · obtain ⟨q1, q2, q3⟩ := hm td htd
      refine ⟨by have : td.lv.length ≤ 6 := q3; omega, fun l hl => ?_, by omega⟩
      obtain ⟨p1, p2⟩ := lvl_small (q2 l hl)
      exact ⟨by omega, fun nd hnd => by have := p2 nd hnd; omega⟩
    · have := costT_each (c := 1543) (ts := T.flat 0) (fun td htd => by
        obtain ⟨q1, q2, q3⟩ := hm td htd
        have h4 := costLs_lvl (ls := td.lv) q2
        have h5 : td.lv.length ≤ 6 := q3
        omega)
      rw [hl] at this
      omega
/-- A term to be read in each world that keeps the blocks of a range. -/
def FrR (lo hi : Nat) (w : World) (v : Value) (ts : List Td) : Prop := ∀ w' : World, (∀ b : Nat, lo ≤ b → b < hi → w'.heap[b]? = w.heap[b]?) → TNodesAt w' v ts
theorem FrT.range {B : Nat} {w : World} {v : Value} {ts : List Td} (h : FrT B w v ts) : FrR B w.heap.size w v ts := fun w' hw => h w' hw
theorem FrR.at {lo hi : Nat} {w : World} {v : Value} {ts : List Td} (h : FrR lo hi w v ts) : TNodesAt w v ts := h w (fun _ _ _ => rfl)
theorem FrR.same {lo hi : Nat} {w w2 : World} {v : Value} {ts : List Td} (h : FrR lo hi w v ts) (hh : ∀ b : Nat, lo ≤ b → b < hi → w2.heap[b]? = w.heap[b]?) : FrR lo hi w2 v ts := fun w' hw => h w' (fun b q1 q2 => by rw [hw b q1 q2, hh b q1 q2])
theorem FrR.mono {lo hi lo' hi' : Nat} {w : World} {v : Value} {ts : List Td} (h : FrR lo hi w v ts) (h1 : lo' ≤ lo) (h2 : hi ≤ hi') : FrR lo' hi' w v ts := fun w' hw => h w' (fun b q1 q2 => hw b (by omega) (by omega))
theorem FrR.form {lo hi : Nat} {w : World} {v : Value} {ts : List Td} (h : FrR lo hi w v ts) : ∃ a cap, v = .slice a ts.length cap := by obtain ⟨a, cap, h1, _⟩ := h.at; exact ⟨a, cap, h1⟩
end Go.Proofs.YtbgibiongnhjoaaGreat
