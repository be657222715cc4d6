/- What the specification's l3HolesIn answers. -/
import Derived.Test.YtdbepifdmcjjpaaGreatHoB
import Derived.Test.YtdbepifdmcjjpaaGreatBas
import Derived.Test.YtdbepifdmcjjpaaGreatTFTree
import Derived.Test.YtdbepifdmcjjpaaGreatApN
import Derived.Deep.Upon
import Derived.Deep.Onto
namespace Go.Proofs.YtdbepifdmcjjpaaGreat
open Go.ChangeShapes Go.WideShapes Go.ChangeAt Go.RowKit

/-- The place of a number in a rising row. -/
theorem insZ_at (a : Int) {l : List Int} (hr : Rising l) (k : Nat) (hk : k ≤ l.length) (h1 : ∀ j (h : j < l.length), j < k → l[j] < a) (h2 : ∀ h : k < l.length, ¬ l[k] < a) :
    insZ a l = if ∃ h : k < l.length, l[k] = a then l else l.take k ++ [a] ++ l.drop k := by
  induction l generalizing k with
  | nil => simp at hk; subst hk; simp [insZ]
  | cons b l ih =>
    have hp := List.pairwise_cons.1 hr
    unfold insZ
    cases k with
    | zero =>
      have := h2 (by simp)
      simp only [List.getElem_cons_zero] at this
      rw [if_neg this]
      by_cases he : b = a
      · rw [if_pos he, if_pos ⟨by simp, by simpa using he⟩]
      · rw [if_neg he, if_neg (by rintro ⟨_, h⟩; exact he (by simpa using h))]; simp
    | succ k =>
      have hb := h1 0 (by simp) (by omega)
      simp only [List.getElem_cons_zero] at hb
      rw [if_pos hb, ih hp.2 k (by simpa using hk) (fun j h hj => by have := h1 (j + 1) (by simpa using h) (by omega); simpa using this) (fun h => by have := h2 (by simpa using h); simpa using this)]
      by_cases he : ∃ h : k < l.length, l[k] = a
      · rw [if_pos he, if_pos (by obtain ⟨h, h3⟩ := he; exact ⟨by simpa using h, by simpa using h3⟩)]
      · rw [if_neg he, if_neg (by rintro ⟨h, h3⟩; exact he ⟨by simpa using h, by simpa using h3⟩)]; simp

theorem ints_take {w : World} {va : Option Addr} {vc : Nat} {out : List Int} (h : IntsAt w (.slice va out.length vc) out) (k : Nat) (hk : k ≤ out.length) :
    ∃ a1, (∀ W : World, (Instr.slice 26 (.slice va out.length vc) none (some (.int .i64 (k : Int))) none).run Tryz.prog W = .ok (.slice a1 k vc) W) ∧ (0 < k → ∃ b off, a1 = some ⟨b, off, none⟩ ∧ ∀ j (h : j < (out.take k).length), w.cell? ⟨b, off + j, none⟩ = some (.int .i64 (out.take k)[j])) := by
  obtain ⟨a, c, e, h1, h2, h3⟩ := h
  injection e with e1 e2 e3
  subst e1 e3
  refine ⟨if vc = 0 then va else va.map (·.add (0 * 1)), fun W => ?_, fun h0 => ?_⟩
  · rw [run_slice_h W 26 va out.length vc (by kernel_rfl) .i64 (k : Int) (by omega) (by omega)]
    simp [sliced, go_sem]
  · obtain ⟨b, off, rfl, h4⟩ := h3 (by omega)
    refine ⟨b, off, by simp [Addr.add], fun j hj => ?_⟩
    rw [h4 j (by simp at hj; omega)]; simp
theorem ints_drop {w : World} {va : Option Addr} {vc : Nat} {out : List Int} (h : IntsAt w (.slice va out.length vc) out) (k : Nat) (hk : k ≤ out.length) :
    ∃ a2, (∀ W : World, (Instr.slice 26 (.slice va out.length vc) (some (.int .i64 (k : Int))) none none).run Tryz.prog W = .ok (.slice a2 (out.length - k) (vc - k)) W) ∧ (0 < out.length - k → ∃ b off, a2 = some ⟨b, off, none⟩ ∧ ∀ j (h : j < (out.drop k).length), w.cell? ⟨b, off + j, none⟩ = some (.int .i64 (out.drop k)[j])) := by
  obtain ⟨a, c, e, h1, h2, h3⟩ := h
  injection e with e1 e2 e3
  subst e1 e3
  refine ⟨if vc = k then va else va.map (·.add (k * 1)), fun W => ?_, fun h0 => ?_⟩
  · rw [run_slice_l W 26 va out.length vc (by kernel_rfl) .i64 (k : Int) (by omega) (by omega)]
    simp [sliced, go_sem]
  · obtain ⟨b, off, rfl, h4⟩ := h3 (by omega)
    refine ⟨b, off + k, by rw [if_neg (by omega)]; simp [Addr.add], fun j hj => ?_⟩
    rw [Nat.add_assoc, h4 (k + j) (by simp at hj; omega)]; simp
theorem news_ints {w : World} {b off : Nat} {l : List Int} (h : ∀ j (h : j < l.length), w.cell? ⟨b, off + j, none⟩ = some (.int .i64 l[j])) : ∀ j u, (l.map (Value.int .i64))[j]? = some u → w.cell? ((⟨b, off, none⟩ : Addr).add j) = some u := by
  intro j u hu
  obtain ⟨h1, h2⟩ := List.getElem?_eq_some_iff.1 hu
  rw [← h2, List.getElem_map]
  have h3 := h j (by simpa using h1)
  unfold Addr.add
  split
  · rename_i e
    have e2 : j = 0 := by simpa using e
    subst e2
    simpa using h3
  · exact h3
theorem news_one (l : List Int) : ∀ u ∈ l.map (Value.int .i64), u.oneCell' = true := by
  intro u hu
  obtain ⟨x, _, rfl⟩ := List.mem_map.1 hu
  rfl
/-- A row of numbers of the call's own, maybe nil. -/
def OwnN (base : Nat) (w : World) (v : Value) (ks : List Int) : Prop := w.ownsRow base 3 1 v ks.length (ks.map (Value.int .i64))
theorem OwnN.keep {base : Nat} {w w' : World} {v : Value} {ks : List Int} (h : OwnN base w v ks) (hb : Below w.heap.size w w') : OwnN base w' v ks := row_keep hb h
theorem OwnN.base {base base' : Nat} {w : World} {v : Value} {ks : List Int} (h : OwnN base w v ks) (hb : base' ≤ base) : OwnN base' w v ks := World.ownsRow.mono h hb
theorem OwnN.ints {base : Nat} {w : World} {v : Value} {ks : List Int} (h : OwnN base w v ks) : IntsAt w v ks := by
  rcases h.2 with ⟨h', hx⟩ | ⟨g, cap, cur, rfl, hb, hg, hnc, hcm, hcs, htake⟩
  · have h0 : ks = [] := by simpa using hx
    subst h0
    subst h'
    exact ⟨none, 0, rfl, by simp, by unfold maxLen; omega, fun h => by simp at h⟩
  · refine ⟨_, cap, rfl, hnc, hcm, fun h0 => ⟨g, 0, rfl, fun j hj => ?_⟩⟩
    rw [Nat.zero_add, World.ownsRow.cellAt h j (by omega)]
    simp
theorem own_n {w : World} {base g cap n : Nat} {l : List Int} (h : w.ownsRow base 3 1 (.slice (some ⟨g, 0, none⟩) n cap) n (l.map (Value.int .i64))) (hn : n = l.length) : OwnN base w (.slice (some ⟨g, 0, none⟩) n cap) l := by
  subst hn; exact h
theorem ints_own {w : World} {base g cap n : Nat} {l : List Int} (h : w.ownsRow base 3 1 (.slice (some ⟨g, 0, none⟩) n cap) n (l.map (Value.int .i64))) (hn : n = l.length) : IntsAt w (.slice (some ⟨g, 0, none⟩) n cap) l := by
  have hc := ownsRow_cap h
  subst hn
  refine ⟨_, cap, rfl, hc.1, hc.2, fun h0 => ⟨g, 0, rfl, fun j hj => ?_⟩⟩
  rw [Nat.zero_add, World.ownsRow.cellAt h j (by omega)]
  simp

set_option maxRecDepth 20000 in
set_option maxHeartbeats 8000000 in
theorem l3Holes_leaf (A : Nat) (x : Td) (lv kv : Value) (z : Zs) (out : List Int) (v : Value) (w : World) (tn : TnAt 0 w A (tnL x.k x.n x.m x.s lv kv z)) (h9 : x.k = 9) (hz : z.ho = true) (base : Nat) (hbase : base ≤ w.heap.size) (hown : OwnN base w v out) (hr : Rising out) (hl : out.length ≤ 1000000) :
    Calls Tryz.prog 25 #[.pointer (some ⟨A, 0, none⟩), v] w fun e w' => ∃ v', e = .returned v' ∧ OwnN base w' v' (insZ x.n out) ∧ Below w.heap.size w w' := by
  obtain ⟨i3, hi3, hz3, hs3, hb3⟩ := info_parts Tryz.info3
  have ho := hown.ints
  have HO := hide ho
  have HOW := hide hown
  have HBS := hide hbase
  clear hown hbase
  obtain ⟨va, vc, rfl, hvl, hvm, hvc⟩ := ho
  have HVC := hide hvc
  unfold maxLen at hvm
  have hAl := (tn.lt A rfl).2
  have a0 : ∀ p : Bel w.heap.size w, p.w'.cell? ⟨A, 0, none⟩ = some (.int .i64 9) := fun p => p.cell hAl (by rw [tn.cellAt 0 (by omega), ← h9]; rfl)
  have a1 : ∀ p : Bel w.heap.size w, p.w'.cell? ⟨A, 1, none⟩ = some (.int .i64 x.n) := fun p => p.cell hAl (by rw [tn.cellAt 1 (by omega)]; rfl)
  have a8 : ∀ p : Bel w.heap.size w, p.w'.cell? ⟨A, 8, none⟩ = some (.bool true) := fun p => p.cell hAl (by rw [tn.cellAt 8 (by omega), ← hz]; rfl)
  have a0w := a0 ⟨w, Below.refl _ _⟩
  have a8w := a8 ⟨w, Below.refl _ _⟩
  have HR := hide hr
  clear hvc tn h9 hz hr
  generalize x.n = N at *
  go_enter Tryz.func25, Tryz.ntmps25
  go_wp2_with fail
  go_loopw [5] (fun i wr => ∃ (k : Nat), k ≤ out.length ∧ i = .int .i64 k ∧ Hid (Below w.heap.size w wr) ∧ Hid (∀ j (h : j < out.length), j < k → out[j] < N)) (fun i _ => out.length - (intOf i).toNat)
  case atStart => exact ⟨0, by omega, rfl, Below.refl _ _, fun j _ h => by omega⟩
  case round =>
    obtain ⟨k, hk, rfl, HB, HA⟩ := hrel
    have hAr : A < wr.heap.size := Nat.lt_of_lt_of_le hAl HB.out.size
    haveI := bel_ne wr.heap.size wr
    have b1 : ∀ p : Bel wr.heap.size wr, p.w'.cell? ⟨A, 1, none⟩ = some (.int .i64 N) := fun p => p.cell hAr (a1 ⟨wr, HB.out⟩)
    by_cases hlt : k < out.length
    · have hlt' : (k : Int) < out.length := by omega
      obtain ⟨b, off, rfl, hc⟩ := HVC.out (by omega)
      have k1 := hc k hlt
      have m1 : ∀ p : Bel wr.heap.size wr, p.w'.cell? ⟨b, off + k, none⟩ = some (.int .i64 out[k]) := fun p => p.cell (by have := lt_cell (keep_cell HB.out k1); omega) (keep_cell HB.out k1)
      by_cases hy : out[k] < N
      · have HG : Hid (∀ j (h : j < out.length), j < k + 1 → out[j] < N) := by
          intro j h hj
          by_cases e : j = k
          · subst e; exact hy
          · exact HA.out j h (by omega)
        have HQ1 := hide (show k + 1 ≤ out.length from hlt)
        generalize out[k] = y at *
        clear k1 hc HA
        go_wp2_with fail
        refine wp_region_belH wr.heap.size (by kernel_rfl) (by kernel_rfl) (fun Q' hQ' => ?_)
        repeat (refine QW.step (fun K hK => ?_); go_simp; first | (refine hK _ ?_; clear hK K) | fail)
        refine QW.nil ?_
        refine hQ'.out _ (fun p => ?_)
        clear hQ'
        go_wp2_with fail
        go_roundw
        case rel => exact ⟨k + 1, HQ1.out, by go_num, bel_trans HB.out p.h, HG⟩
        case measure => have := HQ1.out; simp [intOf]; omega
      · by_cases he : out[k] = N
        · have HI : Hid (insZ N out = out) := by
            show _ = _
            rw [insZ_at N HR.out k hk HA.out (fun _ => hy), if_pos ⟨hlt, he⟩]
          have qe : (out[k] == N) = true := by simp [he]
          clear HA
          generalize out[k] = y at *
          clear k1 hc
          go_wp2_with fail
          refine wp_region_belH wr.heap.size (by kernel_rfl) (by kernel_rfl) (fun Q' hQ' => ?_)
          repeat (refine QW.step (fun K hK => ?_); go_simp; first | (refine hK _ ?_; clear hK K) | fail)
          refine QW.nil ?_
          refine hQ'.out _ (fun p => ?_)
          clear hQ'
          have hAp : A < p.w'.heap.size := Nat.lt_of_lt_of_le hAr p.h.size
          haveI := bel_ne p.w'.heap.size p.w'
          have b1' : ∀ q : Bel p.w'.heap.size p.w', q.w'.cell? ⟨A, 1, none⟩ = some (.int .i64 N) := fun q => q.cell hAp (b1 p)
          have m1' : ∀ q : Bel p.w'.heap.size p.w', q.w'.cell? ⟨b, off + k, none⟩ = some (.int .i64 y) := fun q => q.cell (lt_cell (m1 p)) (m1 p)
          go_wp2_with fail
          refine wp_region_belH p.w'.heap.size (by kernel_rfl) (by kernel_rfl) (fun Q' hQ' => ?_)
          repeat (refine QW.step (fun K hK => ?_); go_simp; first | (refine hK _ ?_; clear hK K) | fail)
          refine QW.nil ?_
          refine hQ'.out _ (fun q => ?_)
          clear hQ'
          go_wp2_with fail
          go_ret
          refine ⟨_, rfl, ?_, bel_trans HB.out (bel_trans p.h q.h)⟩
          rw [HI.out]
          exact HOW.out.keep (bel_trans HB.out (bel_trans p.h q.h))
        · have HI : Hid (insZ N out = out.take k ++ [N] ++ out.drop k) := by
            show _ = _
            rw [insZ_at N HR.out k hk HA.out (fun _ => hy), if_neg (by rintro ⟨_, h⟩; exact he h)]
          have qe : (out[k] == N) = false := by simp [he]
          clear HA
          generalize out[k] = y at *
          clear k1 hc
          go_wp2_with fail
          refine wp_region_belH wr.heap.size (by kernel_rfl) (by kernel_rfl) (fun Q' hQ' => ?_)
          repeat (refine QW.step (fun K hK => ?_); go_simp; first | (refine hK _ ?_; clear hK K) | fail)
          refine QW.nil ?_
          refine hQ'.out _ (fun p => ?_)
          clear hQ'
          have hAp : A < p.w'.heap.size := Nat.lt_of_lt_of_le hAr p.h.size
          haveI := bel_ne p.w'.heap.size p.w'
          have b1' : ∀ q : Bel p.w'.heap.size p.w', q.w'.cell? ⟨A, 1, none⟩ = some (.int .i64 N) := fun q => q.cell hAp (b1 p)
          have m1' : ∀ q : Bel p.w'.heap.size p.w', q.w'.cell? ⟨b, off + k, none⟩ = some (.int .i64 y) := fun q => q.cell (lt_cell (m1 p)) (m1 p)
          go_wp2_with fail
          refine wp_region_belH p.w'.heap.size (by kernel_rfl) (by kernel_rfl) (fun Q' hQ' => ?_)
          repeat (refine QW.step (fun K hK => ?_); go_simp; first | (refine hK _ ?_; clear hK K) | fail)
          refine QW.nil ?_
          refine hQ'.out _ (fun q => ?_)
          clear hQ'
          have HBQ := hide (bel_trans HB.out (bel_trans p.h q.h))
          have hAq : A < q.w'.heap.size := Nat.lt_of_lt_of_le hAp q.h.size
          have bq := b1' q
          have hwq := HBQ.out.size
          obtain ⟨t1, hsh, HT1⟩ := ints_take HO.out k hk
          obtain ⟨t2, hsl, HT2⟩ := ints_drop HO.out k hk
          have HX1 := hide HT1
          have HX2 := hide HT2
          clear HT1 HT2
          generalize q.w' = W at *
          clear m1 m1' b1 b1'
          by_cases hk0 : k = 0
          · obtain ⟨db, dof, rfl, DC⟩ := HX2.out (by omega)
            have HDC := hide DC
            clear DC
            have HK0 := hide hk0
            have hsh0 : ∀ W : World, (Instr.slice 26 (.slice (some ⟨b, off, none⟩) out.length vc) none (some (.int .i64 (k : Int))) none).run Tryz.prog W = .ok (.slice t1 0 vc) W := fun W => by rw [hsh W, HK0.out]
            clear hsh hk0
            have HOWN := hide ((World.ownsRow_lit (base := w.heap.size) (e := 3) (size := 1) W #[] 0 (by omega) (by unfold maxLen; omega) rfl).alloc (.cells #[.int .i64 N] 3))
            have HB4 := hide (bel_alloc (bel_alloc HBQ.out (.cells #[] 3)) (.cells #[.int .i64 N] 3))
            have HCN : Hid (∀ (j : Nat) (u : Value), [Value.int .i64 N][j]? = some u → ((W.alloc (.cells #[] 3)).alloc (.cells #[.int .i64 N] 3)).cell? ((⟨W.heap.size + 1, 0, none⟩ : Addr).add j) = some u) := fun j u h => by have h2 := cell_one_new (W.alloc (.cells #[] 3)) (.int .i64 N) 3 j u h; rw [show (W.alloc (.cells #[] 3)).heap.size = W.heap.size + 1 from by simp] at h2; exact h2
            go_wp2_with (at_builtin; first | refine wpList_append_none rfl _ _ 26 rfl 3 i3 Tryz.underlying26 hi3 (some ⟨W.heap.size, 0, none⟩) 0 0 (Nat.le_refl _) t1 vc rfl rfl ?_ | refine wpList_append_lies _ rfl _ _ 26 rfl w.heap.size 3 i3 (.int .i64 0) 1 8 Tryz.underlying26 hi3 hz3 hs3 hb3 rfl (by omega) (.slice (some ⟨W.heap.size, 0, none⟩) 0 0) 0 [] rfl HOWN.out ⟨W.heap.size + 1, 0, none⟩ 1 1 [.int .i64 N] rfl rfl HCN.out (by intro u hu; simp at hu; subst hu; rfl) (by omega) (by unfold maxLen; omega) (by omega) (by simp; omega) _ rfl ?_)
            intro g4 cap4 w4 hown4 hgrow4 hat4 hlt4
            have HB5 := hide ((HB4.out).grown hgrow4 (by simp; omega) (fun k hk => by simp [Value.ownBlock] at hk; omega))
            have hown4' : w4.ownsRow w.heap.size 3 1 (.slice (some ⟨g4, 0, none⟩) 1 cap4) 1 ([N].map (Value.int .i64)) := by simpa using hown4
            have HOWN4 := hide hown4'
            have hg4 := (World.ownsRow.lt hown4 g4 rfl).1
            have hw4 := HB5.out.size
            clear hgrow4 hown4 hown4' hat4
            have HN5 := hide (news_ints (l := out.drop k) (fun j h => keep_cell HB5.out (HDC.out j h)))
            go_wp2_with (at_builtin; refine wpList_append_lies _ rfl _ _ 26 rfl w.heap.size 3 i3 (.int .i64 0) 1 8 Tryz.underlying26 hi3 hz3 hs3 hb3 rfl (by omega) (.slice (some ⟨g4, 0, none⟩) 1 cap4) 1 _ rfl HOWN4.out ⟨db, dof, none⟩ (out.length - k) (vc - k) ((out.drop k).map (Value.int .i64)) rfl (by simp) HN5.out (news_one _) (by omega) (by unfold maxLen; omega) (by omega) (by omega) _ rfl ?_)
            intro g5 cap5 w5 hown5 hgrow5 hat5 hlt5
            have HB6 := hide ((HB5.out).grown hgrow5 (by omega) (fun k hk => by simp [Value.ownBlock] at hk; omega))
            have HOWN5 := hide hown5
            clear hgrow5 hown5 hat5
            go_wp2_with fail
            go_ret
            refine ⟨_, rfl, ?_, HB6.out⟩
            rw [HI.out]
            have e : out.take k = [] := by rw [HK0.out]; rfl
            rw [e]
            exact (own_n (by simpa using HOWN5.out) (by first | (simp; done) | (simp; omega))).base HBS.out
          · obtain ⟨db, dof, rfl, DC⟩ := HX2.out (by omega)
            have HDC := hide DC
            clear DC
            obtain ⟨tb, tof, rfl, TC⟩ := HX1.out (by omega)
            have HTC := hide TC
            clear TC
            have HOWN0 := hide (World.ownsRow_lit (base := w.heap.size) (e := 3) (size := 1) W #[] 0 (by omega) (by unfold maxLen; omega) rfl)
            have HB0 := hide (bel_alloc HBQ.out (.cells #[] 3))
            have HN0 := hide (news_ints (l := out.take k) (fun j h => keep_cell HB0.out (HTC.out j h)))
            have HTL : Hid ((out.take k).length = k) := by show _ = _; simp; omega
            go_wp2_with (at_builtin; refine wpList_append_lies _ rfl _ _ 26 rfl w.heap.size 3 i3 (.int .i64 0) 1 8 Tryz.underlying26 hi3 hz3 hs3 hb3 rfl (by omega) (.slice (some ⟨W.heap.size, 0, none⟩) 0 0) 0 [] rfl HOWN0.out ⟨tb, tof, none⟩ k vc ((out.take k).map (Value.int .i64)) rfl (by rw [List.length_map, HTL.out]; omega) HN0.out (news_one _) (by omega) (by unfold maxLen; omega) (by omega) (by simp; omega) _ rfl ?_)
            intro g3 cap3 w3 hown3 hgrow3 hat3 hlt3
            have HB3 := hide ((HB0.out).grown hgrow3 (by simp; omega) (fun k hk => by simp [Value.ownBlock] at hk; omega))
            have hown3' : w3.ownsRow w.heap.size 3 1 (.slice (some ⟨g3, 0, none⟩) k cap3) k ((out.take k).map (Value.int .i64)) := by simpa using hown3
            have HOWN := hide (hown3'.alloc (.cells #[.int .i64 N] 3))
            have hg3 := (World.ownsRow.lt hown3 g3 rfl).1
            have HB4 := hide (bel_alloc HB3.out (.cells #[.int .i64 N] 3))
            have hw3 := HB3.out.size
            have hA3 : A < w3.heap.size := by omega
            have b3 : w3.cell? ⟨A, 1, none⟩ = some (.int .i64 N) := a1 ⟨w3, HB3.out⟩
            clear hgrow3 hown3 hat3 hown3'
            go_wp2_with (at_builtin; refine wpList_append_lies _ rfl _ _ 26 rfl w.heap.size 3 i3 (.int .i64 0) 1 8 Tryz.underlying26 hi3 hz3 hs3 hb3 rfl (by omega) (.slice (some ⟨g3, 0, none⟩) k cap3) k _ rfl HOWN.out ⟨w3.heap.size, 0, none⟩ 1 1 [.int .i64 N] rfl rfl (cell_one_new _ _ _) (by intro u hu; simp at hu; subst hu; rfl) (by omega) (by unfold maxLen; omega) (by omega) (by simp; omega) _ rfl ?_)
            intro g4 cap4 w4 hown4 hgrow4 hat4 hlt4
            have HB5 := hide ((HB4.out).grown hgrow4 (by simp; omega) (fun k hk => by simp [Value.ownBlock] at hk; omega))
            have hown4' : w4.ownsRow w.heap.size 3 1 (.slice (some ⟨g4, 0, none⟩) (k + 1) cap4) (k + 1) ((out.take k ++ [N]).map (Value.int .i64)) := by simpa using hown4
            have HOWN4 := hide hown4'
            have hg4 := (World.ownsRow.lt hown4 g4 rfl).1
            have hw4 := HB5.out.size
            clear hgrow4 hown4 hown4' hat4
            have HN5 := hide (news_ints (l := out.drop k) (fun j h => keep_cell HB5.out (HDC.out j h)))
            go_wp2_with (at_builtin; refine wpList_append_lies _ rfl _ _ 26 rfl w.heap.size 3 i3 (.int .i64 0) 1 8 Tryz.underlying26 hi3 hz3 hs3 hb3 rfl (by omega) (.slice (some ⟨g4, 0, none⟩) (k + 1) cap4) (k + 1) _ rfl HOWN4.out ⟨db, dof, none⟩ (out.length - k) (vc - k) ((out.drop k).map (Value.int .i64)) rfl (by simp) HN5.out (news_one _) (by omega) (by unfold maxLen; omega) (by omega) (by omega) _ rfl ?_)
            intro g5 cap5 w5 hown5 hgrow5 hat5 hlt5
            have HB6 := hide ((HB5.out).grown hgrow5 (by omega) (fun k hk => by simp [Value.ownBlock] at hk; omega))
            have HOWN5 := hide hown5
            clear hgrow5 hown5 hat5
            go_wp2_with fail
            go_ret
            refine ⟨_, rfl, ?_, HB6.out⟩
            rw [HI.out]
            exact (own_n (by simpa using HOWN5.out) (by first | (simp; done) | (simp; omega))).base HBS.out
    · have HI : Hid (insZ N out = out.take k ++ [N] ++ out.drop k) := by
        show _ = _
        rw [insZ_at N HR.out k hk HA.out (fun h => absurd h hlt), if_neg (by rintro ⟨h, _⟩; exact hlt h)]
      have hlt' : ¬ (k : Int) < out.length := by omega
      clear HA
      go_wp2_with fail
      refine wp_region_belH wr.heap.size (by kernel_rfl) (by kernel_rfl) (fun Q' hQ' => ?_)
      repeat (refine QW.step (fun K hK => ?_); go_simp; first | (refine hK _ ?_; clear hK K) | fail)
      refine QW.nil ?_
      refine hQ'.out _ (fun p => ?_)
      clear hQ'
      have hAp : A < p.w'.heap.size := Nat.lt_of_lt_of_le hAr p.h.size
      haveI := bel_ne p.w'.heap.size p.w'
      have b1' : ∀ q : Bel p.w'.heap.size p.w', q.w'.cell? ⟨A, 1, none⟩ = some (.int .i64 N) := fun q => q.cell hAp (b1 p)
      go_wp2_with fail
      refine wp_region_belH p.w'.heap.size (by kernel_rfl) (by kernel_rfl) (fun Q' hQ' => ?_)
      repeat (refine QW.step (fun K hK => ?_); go_simp; first | (refine hK _ ?_; clear hK K) | fail)
      refine QW.nil ?_
      refine hQ'.out _ (fun q => ?_)
      clear hQ'
      have HBQ := hide (bel_trans HB.out (bel_trans p.h q.h))
      have hAq : A < q.w'.heap.size := Nat.lt_of_lt_of_le hAp q.h.size
      have bq := b1' q
      have hwq := HBQ.out.size
      obtain ⟨t1, hsh, HT1⟩ := ints_take HO.out k hk
      obtain ⟨t2, hsl, HT2⟩ := ints_drop HO.out k hk
      have HX1 := hide HT1
      have HX2 := hide HT2
      clear HT1 HT2
      generalize q.w' = W at *
      clear b1 b1'
      by_cases hk0 : k = 0
      · have hsl0 : ∀ W : World, (Instr.slice 26 (.slice va out.length vc) (some (.int .i64 (k : Int))) none none).run Tryz.prog W = .ok (.slice t2 0 (vc - k)) W := fun W => by rw [hsl W]; congr 2; omega
        clear hsl
        have HK0 := hide hk0
        have hsh0 : ∀ W : World, (Instr.slice 26 (.slice va out.length vc) none (some (.int .i64 (k : Int))) none).run Tryz.prog W = .ok (.slice t1 0 vc) W := fun W => by rw [hsh W, HK0.out]
        clear hsh hk0
        have HOWN := hide ((World.ownsRow_lit (base := w.heap.size) (e := 3) (size := 1) W #[] 0 (by omega) (by unfold maxLen; omega) rfl).alloc (.cells #[.int .i64 N] 3))
        have HB4 := hide (bel_alloc (bel_alloc HBQ.out (.cells #[] 3)) (.cells #[.int .i64 N] 3))
        have HCN : Hid (∀ (j : Nat) (u : Value), [Value.int .i64 N][j]? = some u → ((W.alloc (.cells #[] 3)).alloc (.cells #[.int .i64 N] 3)).cell? ((⟨W.heap.size + 1, 0, none⟩ : Addr).add j) = some u) := fun j u h => by have h2 := cell_one_new (W.alloc (.cells #[] 3)) (.int .i64 N) 3 j u h; rw [show (W.alloc (.cells #[] 3)).heap.size = W.heap.size + 1 from by simp] at h2; exact h2
        go_wp2_with (at_builtin; first | refine wpList_append_none rfl _ _ 26 rfl 3 i3 Tryz.underlying26 hi3 (some ⟨W.heap.size, 0, none⟩) 0 0 (Nat.le_refl _) t1 vc rfl rfl ?_ | refine wpList_append_lies _ rfl _ _ 26 rfl w.heap.size 3 i3 (.int .i64 0) 1 8 Tryz.underlying26 hi3 hz3 hs3 hb3 rfl (by omega) (.slice (some ⟨W.heap.size, 0, none⟩) 0 0) 0 [] rfl HOWN.out ⟨W.heap.size + 1, 0, none⟩ 1 1 [.int .i64 N] rfl rfl HCN.out (by intro u hu; simp at hu; subst hu; rfl) (by omega) (by unfold maxLen; omega) (by omega) (by simp; omega) _ rfl ?_)
        intro g4 cap4 w4 hown4 hgrow4 hat4 hlt4
        have HB5 := hide ((HB4.out).grown hgrow4 (by simp; omega) (fun k hk => by simp [Value.ownBlock] at hk; omega))
        have hown4' : w4.ownsRow w.heap.size 3 1 (.slice (some ⟨g4, 0, none⟩) 1 cap4) 1 ([N].map (Value.int .i64)) := by simpa using hown4
        have HOWN4 := hide hown4'
        have hg4 := (World.ownsRow.lt hown4 g4 rfl).1
        have hw4 := HB5.out.size
        clear hgrow4 hown4 hown4' hat4
        go_wp2_with (at_builtin; refine wpList_append_none rfl _ _ 26 rfl 3 i3 Tryz.underlying26 hi3 (some ⟨g4, 0, none⟩) 1 cap4 (ownsRow_cap HOWN4.out).1 t2 (vc - k) rfl rfl ?_)
        go_ret
        refine ⟨_, rfl, ?_, HB5.out⟩
        rw [HI.out]
        have e : out.take k = [] := by rw [HK0.out]; rfl
        have e2 : out.drop k = [] := List.drop_eq_nil_of_le (by omega)
        rw [e, e2]
        exact (own_n (by simpa using HOWN4.out) (by first | (simp; done) | (simp; omega))).base HBS.out
      · have hsl0 : ∀ W : World, (Instr.slice 26 (.slice va out.length vc) (some (.int .i64 (k : Int))) none none).run Tryz.prog W = .ok (.slice t2 0 (vc - k)) W := fun W => by rw [hsl W]; congr 2; omega
        clear hsl
        obtain ⟨tb, tof, rfl, TC⟩ := HX1.out (by omega)
        have HTC := hide TC
        clear TC
        have HOWN0 := hide (World.ownsRow_lit (base := w.heap.size) (e := 3) (size := 1) W #[] 0 (by omega) (by unfold maxLen; omega) rfl)
        have HB0 := hide (bel_alloc HBQ.out (.cells #[] 3))
        have HN0 := hide (news_ints (l := out.take k) (fun j h => keep_cell HB0.out (HTC.out j h)))
        have HTL : Hid ((out.take k).length = k) := by show _ = _; simp; omega
        go_wp2_with (at_builtin; refine wpList_append_lies _ rfl _ _ 26 rfl w.heap.size 3 i3 (.int .i64 0) 1 8 Tryz.underlying26 hi3 hz3 hs3 hb3 rfl (by omega) (.slice (some ⟨W.heap.size, 0, none⟩) 0 0) 0 [] rfl HOWN0.out ⟨tb, tof, none⟩ k vc ((out.take k).map (Value.int .i64)) rfl (by rw [List.length_map, HTL.out]; omega) HN0.out (news_one _) (by omega) (by unfold maxLen; omega) (by omega) (by simp; omega) _ rfl ?_)
        intro g3 cap3 w3 hown3 hgrow3 hat3 hlt3
        have HB3 := hide ((HB0.out).grown hgrow3 (by simp; omega) (fun k hk => by simp [Value.ownBlock] at hk; omega))
        have hown3' : w3.ownsRow w.heap.size 3 1 (.slice (some ⟨g3, 0, none⟩) k cap3) k ((out.take k).map (Value.int .i64)) := by simpa using hown3
        have HOWN := hide (hown3'.alloc (.cells #[.int .i64 N] 3))
        have hg3 := (World.ownsRow.lt hown3 g3 rfl).1
        have HB4 := hide (bel_alloc HB3.out (.cells #[.int .i64 N] 3))
        have hw3 := HB3.out.size
        have hA3 : A < w3.heap.size := by omega
        have b3 : w3.cell? ⟨A, 1, none⟩ = some (.int .i64 N) := a1 ⟨w3, HB3.out⟩
        clear hgrow3 hown3 hat3 hown3'
        go_wp2_with (at_builtin; refine wpList_append_lies _ rfl _ _ 26 rfl w.heap.size 3 i3 (.int .i64 0) 1 8 Tryz.underlying26 hi3 hz3 hs3 hb3 rfl (by omega) (.slice (some ⟨g3, 0, none⟩) k cap3) k _ rfl HOWN.out ⟨w3.heap.size, 0, none⟩ 1 1 [.int .i64 N] rfl rfl (cell_one_new _ _ _) (by intro u hu; simp at hu; subst hu; rfl) (by omega) (by unfold maxLen; omega) (by omega) (by simp; omega) _ rfl ?_)
        intro g4 cap4 w4 hown4 hgrow4 hat4 hlt4
        have HB5 := hide ((HB4.out).grown hgrow4 (by simp; omega) (fun k hk => by simp [Value.ownBlock] at hk; omega))
        have hown4' : w4.ownsRow w.heap.size 3 1 (.slice (some ⟨g4, 0, none⟩) (k + 1) cap4) (k + 1) ((out.take k ++ [N]).map (Value.int .i64)) := by simpa using hown4
        have HOWN4 := hide hown4'
        have hg4 := (World.ownsRow.lt hown4 g4 rfl).1
        have hw4 := HB5.out.size
        clear hgrow4 hown4 hown4' hat4
        go_wp2_with (at_builtin; refine wpList_append_none rfl _ _ 26 rfl 3 i3 Tryz.underlying26 hi3 (some ⟨g4, 0, none⟩) (k + 1) cap4 (ownsRow_cap HOWN4.out).1 t2 (vc - k) rfl rfl ?_)
        go_ret
        refine ⟨_, rfl, ?_, HB5.out⟩
        rw [HI.out]
        have e2 : out.drop k = [] := List.drop_eq_nil_of_le (by omega)
        rw [e2]
        exact (own_n (by simpa using HOWN4.out) (by first | (simp; done) | (simp; omega))).base HBS.out
end Go.Proofs.YtdbepifdmcjjpaaGreat
