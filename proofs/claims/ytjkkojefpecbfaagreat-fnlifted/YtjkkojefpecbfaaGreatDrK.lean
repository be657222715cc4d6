/- What markLevelS and markTerm answer at terms of the call's own: the marks are all there. -/
import Derived.Test.YtjkkojefpecbfaaGreatTeA
import Derived.Test.YtjkkojefpecbfaaGreatSpF
import Derived.Test.YtjkkojefpecbfaaGreatMkC
import Derived.Test.YtjkkojefpecbfaaGreatDrT
import Derived.Test.YtjkkojefpecbfaaGreatDrC
import Derived.Test.YtjkkojefpecbfaaGreatAnyC
import Derived.Test.YtjkkojefpecbfaaGreatDrB
import Derived.Test.YtjkkojefpecbfaaGreatTrA
namespace Go.Proofs.YtjkkojefpecbfaaGreat
open Go.ChangeShapes Go.WideShapes Go.ChangeAt Go.RowKit

theorem own_some {w : World} {base : Nat} {e : TypeId} {s n cap : Nat} {a : Option Addr} {xs : List Value} (h : w.ownsRow base e s (.slice a n cap) n xs) (hn : 0 < n) : ∃ R, a = some ⟨R, 0, none⟩ := by
  rcases h.2 with ⟨h1, h0⟩ | ⟨g, cap', cur, h1, _⟩
  · omega
  · injection h1 with h2 _ _
    exact ⟨g, h2⟩

end Go.Proofs.YtjkkojefpecbfaaGreat

/- What a law of a function that answers a term and a code keeps in sight: the answers, the boxes. How many marks an answer takes. No program is walked here. -/
namespace Go.Proofs.YtjkkojefpecbfaaGreat
open Go.ChangeShapes Go.WideShapes Go.ChangeAt Go.RowKit

theorem flat_mem {P : Hd → Nat → Prop} : ∀ (T : Tt) (o : Nat), T.all P → ∀ td ∈ T.flat o, td.kids.length ≤ 3 ∧ P td.hd td.kids.length
  | .t0 h, o, hp, td, hm => by
    simp only [Tt.flat, List.mem_singleton] at hm
    subst hm
    exact ⟨by simp [Hd.td], hp⟩
  | .t1 h a, o, hp, td, hm => by
    simp only [Tt.flat, List.mem_append, List.mem_singleton] at hm
    rcases hm with hm | rfl
    · exact flat_mem a _ hp.2 td hm
    · exact ⟨by simp [Hd.td], hp.1⟩
  | .t2 h a b, o, hp, td, hm => by
    simp only [Tt.flat, List.mem_append, List.mem_singleton] at hm
    rcases hm with (hm | hm) | rfl
    · exact flat_mem a _ hp.2.1 td hm
    · exact flat_mem b _ hp.2.2 td hm
    · exact ⟨by simp [Hd.td], hp.1⟩
  | .t3 h a b c, o, hp, td, hm => by
    simp only [Tt.flat, List.mem_append, List.mem_singleton] at hm
    rcases hm with ((hm | hm) | hm) | rfl
    · exact flat_mem a _ hp.2.1 td hm
    · exact flat_mem b _ hp.2.2.1 td hm
    · exact flat_mem c _ hp.2.2.2 td hm
    · exact ⟨by simp [Hd.td], hp.1⟩
end Go.Proofs.YtjkkojefpecbfaaGreat

/- What the specification's l3Any answers. -/
namespace Go.Proofs.YtjkkojefpecbfaaGreat
open Go.ChangeShapes Go.WideShapes Go.ChangeAt Go.RowKit

theorem flat_rng : ∀ (T : Tt) (o : Nat), ∀ td ∈ T.flat o, ∀ c ∈ td.kids, (o : Int) ≤ c ∧ c < ((o + T.cnt : Nat) : Int)
  | .t0 h, o, td, hm, c, hc => by
    simp only [Tt.flat, List.mem_singleton] at hm
    subst hm
    simp [Hd.td] at hc
  | .t1 h a, o, td, hm, c, hc => by
    have ha := a.cnt_pos
    simp only [Tt.flat, List.mem_append, List.mem_singleton] at hm
    simp only [Tt.cnt]
    rcases hm with hm | rfl
    · have := flat_rng a _ td hm c hc
      omega
    · simp [Hd.td] at hc
      omega
  | .t2 h a b, o, td, hm, c, hc => by
    have ha := a.cnt_pos
    have hb := b.cnt_pos
    simp only [Tt.flat, List.mem_append, List.mem_singleton] at hm
    simp only [Tt.cnt]
    rcases hm with (hm | hm) | rfl
    · have := flat_rng a _ td hm c hc
      omega
    · have := flat_rng b _ td hm c hc
      omega
    · simp [Hd.td] at hc
      omega
  | .t3 h a b d, o, td, hm, c, hc => by
    have ha := a.cnt_pos
    have hb := b.cnt_pos
    have hd := d.cnt_pos
    simp only [Tt.flat, List.mem_append, List.mem_singleton] at hm
    simp only [Tt.cnt]
    rcases hm with ((hm | hm) | hm) | rfl
    · have := flat_rng a _ td hm c hc
      omega
    · have := flat_rng b _ td hm c hc
      omega
    · have := flat_rng d _ td hm c hc
      omega
    · simp [Hd.td] at hc
      omega
theorem TmQ.base {Q : Nat → Prop} {base base' : Nat} {w : World} {v : Value} {ts : List Td} (h : TmQ Q base w v ts) (hb : base' ≤ base) : TmQ Q base' w v ts := by
  obtain ⟨xs, ⟨h1, h2⟩, h4⟩ := h
  refine ⟨xs, ⟨h1, ?_⟩, h4⟩
  rcases h2 with h2 | ⟨g, cap, cur, e, h3, h5⟩
  · exact .inl h2
  · exact .inr ⟨g, cap, cur, e, by omega, h5⟩
set_option maxRecDepth 20000 in
set_option maxHeartbeats 4000000 in
theorem l3TermQ_any (Qs : Nat → Prop) (T : Tt) (p : Nat) (w : World) (hS : SpG Qs w T p) (hP : T.all levP) (hc : T.cnt ≤ 90000) :
    Calls Tryz.prog 50 #[.pointer (some ⟨p, 0, none⟩)] w fun e w' => ∃ g cap, e = .returned (.agg #[.slice (some ⟨g, 0, none⟩) (T.flat 0).length cap]) ∧ TmQ (fun b => w.heap.size < b ∧ b ≠ g) w.heap.size w' (.slice (some ⟨g, 0, none⟩) (T.flat 0).length cap) (T.flat 0) ∧ w.heap.size < g ∧ Below w.heap.size w w' := by
  obtain ⟨W1, hW1⟩ : ∃ W1, W1 = w.alloc (.cells #[.slice none 0 0] 28) := ⟨_, rfl⟩
  obtain ⟨W2, hW2⟩ : ∃ W2, W2 = W1.alloc (.cells #[] 67) := ⟨_, rfl⟩
  have hb1 : Below w.heap.size w W1 := by rw [hW1]; exact bel_alloc (Below.refl _ _) _
  have hb2 : Below W1.heap.size W1 W2 := by rw [hW2]; exact bel_alloc (Below.refl _ _) _
  have hr1 : W1.heap[w.heap.size]? = some (.cells #[.slice none 0 0] 28 (0, 0)) := by rw [hW1]; exact heap_alloc_new w _
  have l1 : w.heap.size < W1.heap.size := (Array.getElem?_eq_some_iff.1 hr1).1
  have HR2 : Hid (W2.heap[w.heap.size]? = some (.cells #[.slice none 0 0] 28 (0, 0))) := by show _ = _; rw [hb2.block _ l1]; exact hr1
  have HB2 := hide (bel_trans hb1 hb2)
  have ho : W2.ownsRow W1.heap.size 67 6 (.slice (some ⟨W1.heap.size, 0, none⟩) 0 0) 0 [] := by
    rw [hW2]
    exact ⟨rfl, .inr ⟨W1.heap.size, 0, #[], rfl, Nat.le_refl _, heap_alloc_new W1 _, Nat.le_refl _, by unfold maxLen; omega, rfl, rfl⟩⟩
  have HC := hide (l3Nodes_all Qs W1 T.cnt T p W2 W1.heap.size 0 [] (fun _ => False) (Nat.le_refl _) (hS.keep hb1) hP hb2 ⟨[], ho, fun i h => by simp at h⟩ (fun b hb => by cases hb) (by simp; omega))
  have hs2 : W1.heap.size < W2.heap.size := by rw [hW2]; simp
  have hs1 : W1.heap.size = w.heap.size + 1 := by rw [hW1]; simp
  have HS1 := hide hs1
  clear hS hP hb1 hb2 hr1 ho hs1
  go_enter Tryz.func50, Tryz.ntmps50
  go_upto_region 1 with fail
  rw [← hW1]
  clear hW1
  go_wp2_with fail
  first | rw [← hW2] | skip
  refine HC.out.mono ?_
  rintro e w3 ⟨g, cap, rfl, htm, hg, hor⟩
  have hne : w.heap.size ≠ W1.heap.size := by have := HS1.out; omega
  have hr3 : w3.heap[w.heap.size]? = some (.cells #[.slice none 0 0] 28 (0, 0)) := by rw [hg.block _ (by omega) (fun e => hne (Option.some.inj e))]; exact HR2.out
  have c3 : w3.cell? ⟨w.heap.size, 0, none⟩ = some (.slice none 0 0) := by rw [Lib.cell_of_heap hr3]; rfl
  have f3 : w3.frozen? ⟨w.heap.size, 0, none⟩ = false := Lib.frozen_of_heap hr3 0
  have l3 := lt_cell c3
  have HB3 : Hid (Below w.heap.size w w3) := HB2.out.grown hg HB2.out.size (fun k hk => by have := Option.some.inj hk; have := HS1.out; omega)
  have hg1 : W1.heap.size ≤ g := by rcases hor with h | h <;> omega
  have HTM : Hid (TmQ (fun b => w.heap.size < b ∧ b ≠ g) w.heap.size w3 (.slice (some ⟨g, 0, none⟩) T.cnt cap) (T.flat 0)) := by
    show TmQ _ _ _ _ _
    have h1 := (htm.base (base' := w.heap.size) (by have := HS1.out; omega)).keep (R := fun b => w.heap.size < b ∧ b ≠ g) (Nat.le_refl _) (fun _ _ => rfl) (fun b hb hl => ⟨by
      rcases hb with h | h
      · exact absurd h.1 id
      · exact ⟨by omega, h.2⟩, rfl⟩)
    simpa using h1
  have HFL := hide (T.flat_len 0)
  clear htm hg hor hr3 HC hne
  have hz : ([] : List Td).length + T.cnt = T.cnt := by simp
  rw [hz]
  clear hz
  go_wp2_with fail
  have hgr := grown_set w3 ⟨w.heap.size, 0, none⟩ (.slice (some ⟨g, 0, none⟩) T.cnt cap)
  have hS1 := HS1.out
  have ht := HTM.out.keep (R := fun b => w.heap.size < b ∧ b ≠ g) hgr.size (fun q hq => hgr.block q (by have h9 : g < w3.heap.size := by { obtain ⟨xs, q1, _⟩ := HTM.out; exact (World.ownsRow.lt q1 g rfl).2 }; simp [Value.ownBlock] at hq; omega) (fun e => by have e9 : q = w.heap.size := Option.some.inj e; simp [Value.ownBlock] at hq; omega)) (fun b hb hl => ⟨hb, hgr.block b hl (fun e => by have e9 : b = w.heap.size := Option.some.inj e; omega)⟩)
  refine bodyPost_ret (v := .agg #[.slice (some ⟨g, 0, none⟩) T.cnt cap]) (by simp [results, Tryz.results50, go_sem, c3]) rfl ⟨g, cap, by rw [HFL.out], by rw [HFL.out]; exact ht, by omega, ?_⟩
  exact HB3.out.setCell (p := ⟨_, _, _⟩) (by show _ ≤ w.heap.size; omega) _
/-- Each level of the nodes is valid, or small. -/
def LvQ (ts : List Td) : Prop := ∀ td ∈ ts, ∀ l ∈ td.lv, lvlB l = true ∨ (l.length ≤ 1000 ∧ SmallS l)
theorem lvq_flat {T : Tt} (h : T.all levP) : LvQ (T.flat 0) := fun td hm l hl => .inl ((flat_mem T 0 h td hm).2.1 l hl)
/-- The nodes that l3Any draws. -/
def anyT (ρ : Pl) : List Td :=
  if ρ.v < 236 then (d3 8 0 (ρ.v % 4) ρ.n).1.flat 0 else spoilT ((d3 8 0 (ρ.v % 4) ρ.n).1.flat 0) (d3 8 0 (ρ.v % 4) ρ.n).2
/-- The place behind the term that is drawn. -/
def anyTP (ρ : Pl) : Pl :=
  if ρ.v < 236 then (d3 8 0 (ρ.v % 4) ρ.n).2 else spoilQ (d3 8 0 (ρ.v % 4) ρ.n).2
set_option maxRecDepth 20000 in
set_option maxHeartbeats 8000000 in
theorem l3Any_any {ρ : Pl} (R base : Nat) (w : World) (h : RdAt ρ base w R) :
    Calls Tryz.prog 83 #[.pointer (some ⟨R, 0, none⟩)] w fun e w' => ∃ v, e = .returned (.agg #[v]) ∧ FrT w.heap.size w' v (anyT ρ) ∧ Below base w w' ∧ LvQ (anyT ρ) ∧ RdAt (anyTP ρ) base w' R ∧ ∀ b : Nat, b < w.heap.size → b ≠ R → w'.heap[b]? = w.heap[b]? := by
  have hRlt := h.lt
  obtain ⟨W1, hW1⟩ : ∃ W1, W1 = w.alloc (.cells #[.slice none 0 0] 28) := ⟨_, rfl⟩
  have hb1 : Below w.heap.size w W1 := by rw [hW1]; exact bel_alloc (Below.refl _ _) _
  have hr1 : W1.heap[w.heap.size]? = some (.cells #[.slice none 0 0] 28 (0, 0)) := by rw [hW1]; exact heap_alloc_new w _
  have l1 : w.heap.size < W1.heap.size := (Array.getElem?_eq_some_iff.1 hr1).1
  have HR1 := hide hr1
  have HH1 := hide (h.keep hb1)
  have HB1 := hide (hb1.mono (show base ≤ w.heap.size by omega))
  have HO1 : Hid (∀ b : Nat, b < w.heap.size → b ≠ R → W1.heap[b]? = w.heap[b]?) := fun b q1 _ => hb1.block b q1
  clear h hb1 hr1
  go_enter Tryz.func83, Tryz.ntmps83
  go_upto_region 1 with fail
  rw [← hW1]
  clear hW1
  go_wp2_with fail
  refine (next_any R base W1 HH1.out).mono ?_
  rintro e w2 ⟨v, rfl, hv0, hv1, hr2, hg2, hve⟩
  have hg2s := hg2.size
  have HR2 : Hid (w2.heap[w.heap.size]? = some (.cells #[.slice none 0 0] 28 (0, 0))) := (hg2.block _ l1 (fun e => by have := Option.some.inj e; omega)).trans HR1.out
  have HB2 := hide (HB1.out.grown hg2 (by omega) (fun k hk => by have := Option.some.inj hk; omega))
  have HH2 := hide hr2
  have HO2 : Hid (∀ b : Nat, b < w.heap.size → b ≠ R → w2.heap[b]? = w.heap[b]?) := fun b q1 q2 => (hg2.block b (by omega) (fun e => q2 (Option.some.inj e))).trans (HO1.out b q1 q2)
  obtain ⟨m, hm, hml, HME⟩ : ∃ m : Nat, v.tmod 4 = (m : Int) ∧ m < 4 ∧ Hid (m = ρ.v % 4) := ⟨ρ.v % 4, by rw [hve]; exact tmod_is (m := 4), Nat.mod_lt _ (by omega), rfl⟩
  have hwm := wrap_nat m (by omega)
  obtain ⟨T, hT⟩ : ∃ T, T = (d3 8 0 m ρ.n).1 := ⟨_, rfl⟩
  obtain ⟨τ, hτ⟩ : ∃ τ, τ = (d3 8 0 m ρ.n).2 := ⟨_, rfl⟩
  have HD : Hid (Calls Tryz.prog 81 #[.pointer (some ⟨R, 0, none⟩), .int .i64 0, .int .i64 (m : Int)] w2 fun e w' => ∃ p, e = .returned (.pointer (some ⟨p, 0, none⟩)) ∧ SpG (fun b => b ≠ R) w' T p ∧ RdAt τ base w' R ∧ w2.grownBy w' (some R)) := by
    show Calls _ _ _ _ _
    rw [hT, hτ]
    exact l3Draw_all 8 ρ.n 0 m R base w2 (by omega) (by omega) (by omega) hr2
  have hok := d3_ok 8 0 m ρ.n (by omega)
  rw [← hT] at hok
  have HLV : Hid (T.all levP) := all_mono (fun _ _ hp => hp.2.1) hok.1
  have hcnt : T.cnt ≤ 20000 := by have := hok.2; omega
  have HA : Hid (anyT ρ = if ρ.v < 236 then T.flat 0 else spoilT (T.flat 0) τ) := by show _ = _; unfold anyT; rw [hT, hτ, HME.out]
  have HPA : Hid (anyTP ρ = if ρ.v < 236 then τ else spoilQ τ) := by show _ = _; unfold anyTP; rw [hτ, HME.out]
  have HVE := hide hve
  clear hr2 hg2 hve hok hT hτ
  go_wp2_with fail
  refine HD.out.mono ?_
  rintro e w3 ⟨p, rfl, hS3, hr3, hg3⟩
  have hg3s := hg3.size
  have HR3 : Hid (w3.heap[w.heap.size]? = some (.cells #[.slice none 0 0] 28 (0, 0))) := (hg3.block _ (by omega) (fun e => by have := Option.some.inj e; omega)).trans HR2.out
  have HB3 := hide (HB2.out.grown hg3 (by omega) (fun k hk => by have := Option.some.inj hk; omega))
  have HO3 : Hid (∀ b : Nat, b < w.heap.size → b ≠ R → w3.heap[b]? = w.heap[b]?) := fun b q1 q2 => (hg3.block b (by omega) (fun e => q2 (Option.some.inj e))).trans (HO2.out b q1 q2)
  have HC3 := hide (l3TermQ_any _ T p w3 hS3 HLV.out (by omega))
  have HH3 := hide hr3
  clear hS3 hr3 hg3
  go_wp2_with fail
  refine HC3.out.mono ?_
  rintro e w4 ⟨g, cap, rfl, htm, hgl, hb4⟩
  have hb4s := hb4.size
  have HFM := hide (fun td hm => flat_mem T 0 HLV.out td hm)
  have HFR := hide (flat_rng T 0)
  have HLQ := hide (lvq_flat HLV.out)
  have hfl : (T.flat 0).length = T.cnt := T.flat_len 0
  have hl1 : (T.flat 0).length ≤ 20000 := by omega
  have HL0 : Hid (0 < (T.flat 0).length ∧ T.cnt ≤ 20000) := by show _ ∧ _; have := T.cnt_pos; omega
  clear hfl
  generalize hts : T.flat 0 = ts at *
  clear hts
  have HR4 : Hid (w4.heap[w.heap.size]? = some (.cells #[.slice none 0 0] 28 (0, 0))) := (hb4.block _ (by omega)).trans HR3.out
  have HB4 := hide (HB3.out.trans (hb4.mono (by omega)))
  have HH4 := hide (HH3.out.keep hb4)
  have HO4 : Hid (∀ b : Nat, b < w.heap.size → b ≠ R → w4.heap[b]? = w.heap[b]?) := fun b q1 q2 => (hb4.block b (by omega)).trans (HO3.out b q1 q2)
  have HT4 := hide htm
  have hgl4 : g < w4.heap.size := by obtain ⟨xs, q1, _⟩ := htm; exact (World.ownsRow.lt q1 g rfl).2
  clear htm hb4
  obtain ⟨W5, hW5⟩ : ∃ W5, W5 = w4.alloc (.cells #[.slice (some ⟨g, 0, none⟩) ts.length cap] 28) := ⟨_, rfl⟩
  have hb5 : Below w4.heap.size w4 W5 := by rw [hW5]; exact bel_alloc (Below.refl _ _) _
  have hb5s := hb5.size
  have c5 : W5.cell? ⟨w4.heap.size, 0, none⟩ = some (.slice (some ⟨g, 0, none⟩) ts.length cap) := by rw [hW5]; simp [go_sem]
  have l5 := lt_cell c5
  go_upto_region 3 with fail
  rw [← hW5]
  clear hW5
  have hr5 : W5.heap[w.heap.size]? = some (.cells #[.slice none 0 0] 28 (0, 0)) := (hb5.block _ (by omega)).trans HR4.out
  have c0 : W5.cell? ⟨w.heap.size, 0, none⟩ = some (.slice none 0 0) := by rw [Lib.cell_of_heap hr5]; rfl
  have f0 : W5.frozen? ⟨w.heap.size, 0, none⟩ = false := Lib.frozen_of_heap hr5 0
  have HB5 := hide (HB4.out.trans (hb5.mono (by omega)))
  have HH5 := hide (HH4.out.keep hb5)
  have HO5 : Hid (∀ b : Nat, b < w.heap.size → b ≠ R → W5.heap[b]? = w.heap[b]?) := fun b q1 q2 => (hb5.block b (by omega)).trans (HO4.out b q1 q2)
  have HT5 : Hid (TmQ (fun b => w3.heap.size < b ∧ b ≠ g) w3.heap.size W5 (.slice (some ⟨g, 0, none⟩) ts.length cap) ts) := HT4.out.keep hb5.size (fun q hq => hb5.block q (by simp [Value.ownBlock] at hq; omega)) (fun b hb hl => ⟨hb, hb5.block b hl⟩)
  have HR5 := hide hr5
  clear hb5 HT4 HH4 HB4 HR4 HB3 HR3 HB2 HR2 HH2 HD HC3 HH3
  by_cases hk : v ≥ 236
  · have dk : decide (236 ≤ v) = true := by simp; omega
    have HA2 : Hid (anyT ρ = spoilT ts τ) := by show _ = _; rw [HA.out, if_neg (by have := HVE.out; omega)]
    have HP2 : Hid (anyTP ρ = spoilQ τ) := by show _ = _; rw [HPA.out, if_neg (by have := HVE.out; omega)]
    have HC5 := hide (l3Spoil_any τ base (w.heap.size + 1) R g cap (by omega) ts W5 HH5.out ((HT5.out.base (by omega)).keep (Nat.le_refl _) (fun _ _ => rfl) (fun b hb hl => ⟨⟨hb.2, by omega, by omega⟩, rfl⟩)) (by omega) HL0.out.1 (by omega) (fun td hm => by
      obtain ⟨q1, q2⟩ := HFM.out td hm
      exact ⟨q2.2, q1, fun c hc => by have := HFR.out td hm c hc; have := HL0.out.2; omega⟩))
    clear HA HFM HFR HT5 HH5
    go_wp2_with fail
    refine HC5.out.mono ?_
    rintro e w6 ⟨rfl, hfr, hbel, hkeep, hlq, hrd6⟩
    have HR6 := hide hrd6
    have hs6 := hbel.size
    have HO6 : Hid (∀ b : Nat, b < w.heap.size → b ≠ R → w6.heap[b]? = w.heap[b]?) := fun b q1 q2 => (hkeep b (by omega) q2 (by omega)).trans (HO5.out b q1 q2)
    have HQ6 : Hid (LvQ (spoilT ts τ)) := fun td hm l hl => by
      rcases hlq td hm l hl with ⟨td0, h1, h2⟩ | h1
      · exact HLQ.out td0 h1 l h2
      · exact .inr h1
    have hr6 : w6.heap[w.heap.size]? = some (.cells #[.slice none 0 0] 28 (0, 0)) := (hkeep w.heap.size (by omega) (by omega) (by omega)).trans HR5.out
    have c6 : w6.cell? ⟨w.heap.size, 0, none⟩ = some (.slice none 0 0) := by rw [Lib.cell_of_heap hr6]; rfl
    have f6 : w6.frozen? ⟨w.heap.size, 0, none⟩ = false := Lib.frozen_of_heap hr6 0
    have l6 := lt_cell c6
    have HF6 := hide hfr
    have HB6 := hide (HB5.out.trans hbel)
    clear hfr hbel hkeep hlq c0 f0 c5 hr6 hrd6
    go_wp2_with fail
    refine bodyPost_ret (v := .agg #[.slice (some ⟨g, 0, none⟩) ts.length cap]) (by simp [results, Tryz.results83, go_sem, c6]) rfl ⟨_, rfl, ?_, HB6.out.setCell (p := ⟨_, _, _⟩) (by show base ≤ w.heap.size; omega) _, by rw [HA2.out]; exact HQ6.out, by rw [HP2.out]; exact HR6.out.grown (grown_set w6 ⟨w.heap.size, 0, none⟩ _) (by show R ≠ w.heap.size; omega) (by show base ≤ w.heap.size; omega), fun b q1 q2 => ((grown_set w6 ⟨w.heap.size, 0, none⟩ _).block b (by omega) (fun e => by have e9 : b = w.heap.size := Option.some.inj e; omega)).trans (HO6.out b q1 q2)⟩
    rw [HA2.out]
    exact HF6.out.low (by omega) (p := ⟨_, _, _⟩) (by show w.heap.size < _; omega) _
  · have dk : decide (236 ≤ v) = false := by simp; omega
    have HA2 : Hid (anyT ρ = ts) := by show _ = _; rw [HA.out, if_pos (by have := HVE.out; omega)]
    have HP2 : Hid (anyTP ρ = τ) := by show _ = _; rw [HPA.out, if_pos (by have := HVE.out; omega)]
    have HR6 := hide HH5.out
    have HF5 : Hid (FrT (w.heap.size + 1) W5 (.slice (some ⟨g, 0, none⟩) ts.length cap) ts) := fun w8 hw8 => nodes_fr HT5.out (fun q hq => hw8 q (by simp [Value.ownBlock] at hq; omega) (by simp [Value.ownBlock] at hq; omega)) (fun b hb hl => hw8 b (by omega) hl)
    clear HA HFM HFR HT5 HH5
    go_wp2_with fail
    refine bodyPost_ret (v := .agg #[.slice (some ⟨g, 0, none⟩) ts.length cap]) (by simp [results, Tryz.results83, go_sem, c0]) rfl ⟨_, rfl, ?_, HB5.out.setCell (p := ⟨_, _, _⟩) (by show base ≤ w.heap.size; omega) _, by rw [HA2.out]; exact HLQ.out, by rw [HP2.out]; exact HR6.out.grown (grown_set W5 ⟨w.heap.size, 0, none⟩ _) (by show R ≠ w.heap.size; omega) (by show base ≤ w.heap.size; omega), fun b q1 q2 => ((grown_set W5 ⟨w.heap.size, 0, none⟩ _).block b (by omega) (fun e => by have e9 : b = w.heap.size := Option.some.inj e; omega)).trans (HO5.out b q1 q2)⟩
    rw [HA2.out]
    exact HF5.out.low (by omega) (p := ⟨_, _, _⟩) (by show w.heap.size < _; omega) _
end Go.Proofs.YtjkkojefpecbfaaGreat

/- What is drawn is small. No program is walked here. -/
namespace Go.Proofs.YtjkkojefpecbfaaGreat
open Go.ChangeShapes Go.WideShapes Go.ChangeAt Go.RowKit

def fewP (h : Hd) (_ : Nat) : Prop := h.s.size ≤ 1000 ∧ h.lv.length ≤ 2
theorem getD_size {l : List ByteArray} (h : ∀ s ∈ l, s.size ≤ 1000) (i : Nat) : (l.getD i ⟨#[]⟩).size ≤ 1000 := by
  by_cases e : i < l.length
  · simp only [List.getD_eq_getElem?_getD, List.getElem?_eq_getElem e, Option.getD_some]
    exact h _ (List.getElem_mem e)
  · simp only [List.getD_eq_getElem?_getD, List.getElem?_eq_none (Nat.le_of_not_lt e), Option.getD_none]
    decide
theorem names9_few (i : Nat) : (names9.getD i ⟨#[]⟩).size ≤ 1000 := getD_size (by decide) i
theorem short6_few (i : Nat) : (short6.getD i ⟨#[]⟩).size ≤ 1000 := getD_size (by decide) i
theorem texts6_few (i : Nat) : (texts6.getD i ⟨#[]⟩).size ≤ 1000 := getD_size (by decide) i
theorem varD_few (free k : Nat) : (varD free k).all fewP := by
  unfold varD
  split <;> exact ⟨by show (⟨#[]⟩ : ByteArray).size ≤ 1000; decide, by show ([] : List (List Nd)).length ≤ 2; decide⟩
theorem d3_few : ∀ (d deep free : Nat) (ρ : Pl), (d3 d deep free ρ).1.all fewP
  | 0, deep, free, ρ => by
    simp only [d3]
    exact varD_few free ρ.v
  | d + 1, deep, free, ρ => by
    have ih := d3_few d
    have e0 : (⟨#[]⟩ : ByteArray).size ≤ 1000 := by decide
    have l0 : ([] : List (List Nd)).length ≤ 2 := by decide
    simp only [d3]
    split
    · exact varD_few free ρ.v
    · split
      · exact ⟨e0, by show [_].length ≤ 2; simp⟩
      · split
        · have := lvD_len (ρ.v / 12 % 3) ρ.n
          have h3 : ρ.v / 12 % 3 < 3 := Nat.mod_lt _ (by omega)
          exact ⟨names9_few _, by show (lvD (ρ.v / 12 % 3) ρ.n).1.length ≤ _; omega⟩
        · split
          · exact ⟨⟨e0, l0⟩, ih _ _ _, ih _ _ _⟩
          · split
            · exact ⟨⟨short6_few _, l0⟩, ih _ _ _, ih _ _ _, ih _ _ _⟩
            · split
              · exact ⟨⟨names9_few _, l0⟩, ih _ _ _⟩
              · split
                · exact ⟨e0, l0⟩
                · exact ⟨⟨short6_few _, l0⟩, ih _ _ _, ih _ _ _⟩
/-- A node with few levels and kids and a short text. -/
def FewT (td : Td) : Prop := td.s.size ≤ 1000 ∧ td.lv.length ≤ 3 ∧ td.kids.length ≤ 4
theorem few_flat {T : Tt} (h : T.all fewP) : ∀ td ∈ T.flat 0, td.s.size ≤ 1000 ∧ td.lv.length ≤ 2 ∧ td.kids.length ≤ 3 := fun td hm => by
  obtain ⟨h1, h2⟩ := flat_mem T 0 h td hm
  exact ⟨h2.1, h2.2, h1⟩
theorem few_spoilN {td : Td} (h : td.s.size ≤ 1000 ∧ td.lv.length ≤ 2 ∧ td.kids.length ≤ 3) (p v : Nat) (σ : Pl) : FewT (spoilN td p v σ) := by
  obtain ⟨h1, h2, h3⟩ := h
  unfold spoilN FewT
  split
  · exact ⟨h1, by dsimp only; omega, by dsimp only; omega⟩
  · split
    · exact ⟨h1, by dsimp only; omega, by dsimp only; omega⟩
    · split
      · exact ⟨h1, by dsimp only; omega, by dsimp only; omega⟩
      · split
        · exact ⟨texts6_few _, by dsimp only; omega, by dsimp only; omega⟩
        · split
          · exact ⟨h1, by simp; omega, by dsimp only; omega⟩
          · split
            · exact ⟨h1, by dsimp only; omega, by simp; omega⟩
            · split
              · exact ⟨h1, by dsimp only; omega, by simp; omega⟩
              · exact ⟨h1, by dsimp only; omega, by simp; omega⟩
theorem few_any (ρ : Pl) : ∀ td ∈ anyT ρ, FewT td := fun td hm => by
  have hw := few_flat (d3_few 8 0 (ρ.v % 4) ρ.n)
  unfold anyT at hm
  split at hm
  · obtain ⟨h1, h2, h3⟩ := hw td hm
    exact ⟨h1, by omega, by omega⟩
  · unfold spoilT at hm
    rcases List.mem_or_eq_of_mem_set hm with h | rfl
    · obtain ⟨h1, h2, h3⟩ := hw td h
      exact ⟨h1, by omega, by omega⟩
    · refine few_spoilN ?_ _ _ _
      have hl : 0 < ((d3 8 0 (ρ.v % 4) ρ.n).1.flat 0).length := by rw [Tt.flat_len]; exact Tt.cnt_pos _
      have hi := Nat.mod_lt (d3 8 0 (ρ.v % 4) ρ.n).2.v hl
      simp only [List.getD_eq_getElem?_getD, List.getElem?_eq_getElem hi, Option.getD_some]
      exact hw _ (List.getElem_mem hi)
end Go.Proofs.YtjkkojefpecbfaaGreat

/- Sizes of what is drawn. No program is walked here. -/
namespace Go.Proofs.YtjkkojefpecbfaaGreat
open Go.ChangeShapes Go.WideShapes Go.ChangeAt Go.RowKit

theorem kids_getD {ns : List Nd} (h : ∀ nd ∈ ns, nd.kids.length ≤ 2) (i : Nat) : (ns.getD i ⟨0, ⟨#[]⟩, []⟩).kids.length ≤ 2 := by
  by_cases e : i < ns.length
  · simp only [List.getD_eq_getElem?_getD, List.getElem?_eq_getElem e, Option.getD_some]
    exact h _ (List.getElem_mem e)
  · simp only [List.getD_eq_getElem?_getD, List.getElem?_eq_none (Nat.le_of_not_lt e), Option.getD_none]
    simp
theorem any_kids (ρ : Pl) : ∀ nd ∈ anyN ρ, nd.kids.length ≤ 3 := fun nd hm => by
  have hk := Tr.flat_kids (drw 5 0 ρ.n).1 0
  unfold anyN anyM at hm
  split at hm
  · have := hk nd hm; omega
  · split at hm
    · rcases List.mem_or_eq_of_mem_set hm with h | rfl
      · have := hk nd h; omega
      · have := kids_getD hk ((drw 5 0 ρ.n).2.v % ((drw 5 0 ρ.n).1.flat 0).length); dsimp only; omega
    · split at hm
      · rcases List.mem_or_eq_of_mem_set hm with h | rfl
        · have := hk nd h; omega
        · have := kids_getD hk ((drw 5 0 ρ.n).2.v % ((drw 5 0 ρ.n).1.flat 0).length); dsimp only; omega
      · split at hm
        · rcases List.mem_or_eq_of_mem_set hm with h | rfl
          · have := hk nd h; omega
          · have := kids_getD hk ((drw 5 0 ρ.n).2.v % ((drw 5 0 ρ.n).1.flat 0).length); rw [List.length_append]; simp only [List.length_singleton]; omega
        · split at hm
          · have := Tr.flat_kids _ 0 nd hm; omega
          · have := Tr.flat_kids _ 0 nd hm; omega
theorem run_fields (ns : List Nd) : ∀ k st, runTo ns k = some st → ∀ i (h : i < ns.length), i < k → fieldsB ns[i] = true
  | 0, _, _ => fun i _ h => by omega
  | k + 1, st, h => by
    unfold runTo at h
    split at h
    case h_2 => cases h
    rename_i st' nd h1 h2
    unfold stepN at h
    split at h
    · cases h
    rename_i hno
    simp only [not_or, Decidable.not_not] at hno
    obtain ⟨_, _, n3, _⟩ := hno
    intro i hi hik
    by_cases e : i = k
    · subst e
      rw [List.getElem?_eq_getElem hi] at h2
      have e2 := Option.some.inj h2
      rw [e2]
      simpa using n3
    · exact run_fields ns k st' h1 i hi (by omega)
theorem lvl_texts {ns : List Nd} (h : lvlB ns = true) : SmallS ns := by
  intro nd hnd
  obtain ⟨i, hi, rfl⟩ := List.getElem_of_mem hnd
  simp only [lvlB, Bool.and_eq_true] at h
  cases hr : runTo ns ns.length with
  | none => rw [hr] at h; simp at h
  | some st =>
    have hf := run_fields ns ns.length st hr i hi hi
    unfold fieldsB at hf
    split at hf
    · simp only [paramB, shortB, Bool.and_eq_true, decide_eq_true_eq] at hf
      omega
    · rw [empty_of hf]
      decide
theorem nsSum_bound {c : Nat} : ∀ {ns : List Nd}, (∀ nd ∈ ns, ndSize nd ≤ c) → nsSum ns ≤ c * ns.length
  | [], _ => by simp [nsSum]
  | nd :: l, h => by
    have h1 := h nd (by simp)
    have h2 := nsSum_bound (ns := l) (fun x hx => h x (by simp [hx]))
    simp only [nsSum, List.length_cons, Nat.mul_add]
    omega
theorem sumL_bound {α : Type} {f : α → Nat} {c : Nat} : ∀ {l : List α}, (∀ x ∈ l, f x ≤ c) → sumL f l ≤ c * l.length
  | [], _ => by simp [sumL]
  | x :: l, h => by
    have h1 := h x (by simp)
    have h2 := sumL_bound (l := l) (fun y hy => h y (by simp [hy]))
    simp only [sumL, List.length_cons, Nat.mul_add]
    omega
/-- Each level of the nodes is valid, or one that l1Any draws. -/
def LvE (ts : List Td) : Prop := ∀ td ∈ ts, ∀ l ∈ td.lv, lvlB l = true ∨ ∃ σ, l = anyN σ
theorem lve_flat {T : Tt} (h : T.all levP) : LvE (T.flat 0) := fun td hm l hl => .inl ((flat_mem T 0 h td hm).2.1 l hl)
theorem spoilN_lv (td : Td) (p v : Nat) (σ : Pl) : ∀ l ∈ (spoilN td p v σ).lv, l ∈ td.lv ∨ ∃ σ, l = anyN σ := by
  intro l hl
  unfold spoilN at hl
  split at hl
  · exact .inl hl
  · split at hl
    · exact .inl hl
    · split at hl
      · exact .inl hl
      · split at hl
        · exact .inl hl
        · split at hl
          · rcases List.mem_append.1 hl with h | h
            · exact .inl h
            · exact .inr ⟨_, List.mem_singleton.1 h⟩
          · split at hl
            · exact .inl hl
            · split at hl
              · exact .inl hl
              · exact .inl hl
theorem lve_any (ρ : Pl) : LvE (anyT ρ) := fun td hm l hl => by
  have hw := lve_flat (all_mono (fun _ _ hp => hp.2.1) (d3_ok 8 0 (ρ.v % 4) ρ.n (by have := Nat.mod_lt ρ.v (show 0 < 4 by omega); omega)).1)
  unfold anyT at hm
  split at hm
  · exact hw td hm l hl
  · unfold spoilT at hm
    rcases List.mem_or_eq_of_mem_set hm with h | rfl
    · exact hw td h l hl
    · rcases spoilN_lv _ _ _ _ l hl with h | h
      · have hll : 0 < ((d3 8 0 (ρ.v % 4) ρ.n).1.flat 0).length := by rw [Tt.flat_len]; exact Tt.cnt_pos _
        have hi := Nat.mod_lt (d3 8 0 (ρ.v % 4) ρ.n).2.v hll
        simp only [List.getD_eq_getElem?_getD, List.getElem?_eq_getElem hi, Option.getD_some] at h
        exact hw _ (List.getElem_mem hi) l h
      · exact .inr h
/-- What the walks ask of a term's nodes. -/
theorem sz_of {td : Td} (hf : FewT td) (hq : ∀ l ∈ td.lv, lvlB l = true ∨ (l.length ≤ 1000 ∧ SmallS l)) (he : ∀ l ∈ td.lv, lvlB l = true ∨ ∃ σ, l = anyN σ) : TLens td ∧ TSmall td ∧ (spell td.lv).length ≤ 1000000000 := by
  obtain ⟨h1, h2, h3⟩ := hf
  have hl : ∀ l ∈ td.lv, l.length ≤ 1000 ∧ SmallS l ∧ ∀ nd ∈ l, nd.kids.length ≤ 3 := fun l hm => by
    rcases hq l hm with h | ⟨q1, q2⟩
    · obtain ⟨a, b⟩ := lvl_small h
      exact ⟨by omega, lvl_texts h, fun nd hn => by have := b nd hn; omega⟩
    · rcases he l hm with h | ⟨σ, h⟩
      · obtain ⟨a, b⟩ := lvl_small h
        exact ⟨by omega, lvl_texts h, fun nd hn => by have := b nd hn; omega⟩
      · exact ⟨q1, q2, by rw [h]; exact any_kids σ⟩
  refine ⟨⟨by unfold maxLen; omega, fun l hm nd hn => by have := (hl l hm).2.1 nd hn; unfold maxLen; omega⟩, ⟨by omega, fun l hm => ⟨by have := (hl l hm).1; omega, fun nd hn => by have := (hl l hm).2.2 nd hn; omega⟩, by omega⟩, ?_⟩
  have hs := spell_len td.lv
  have hb := sumL_bound (f := lvSize) (c := 1004000) (l := td.lv) (fun l hm => by
    obtain ⟨a, b, c⟩ := hl l hm
    have := nsSum_bound (c := 1003) (ns := l) (fun nd hn => by have := b nd hn; have := c nd hn; unfold ndSize; omega)
    unfold lvSize
    omega)
  have : 1004000 * td.lv.length ≤ 1004000 * 3 := Nat.mul_le_mul_left _ h2
  omega
end Go.Proofs.YtjkkojefpecbfaaGreat
