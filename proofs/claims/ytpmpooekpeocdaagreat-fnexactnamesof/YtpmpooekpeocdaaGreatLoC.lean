/- What the specification's l3Insert answers: a text put into a rising row. -/
import Derived.Test.YtpmpooekpeocdaaGreatApN
import Derived.Test.YtpmpooekpeocdaaGreatStrS
import Derived.Sort.Walk0
namespace Go.Proofs.YtpmpooekpeocdaaGreat
open Go.ChangeShapes Go.WideShapes Go.ChangeAt Go.RowKit

/-- A row of texts of the call's own, maybe nil. -/
def OwnS (base : Nat) (w : World) (v : Value) (ss : List ByteArray) : Prop := w.ownsRow base 9 1 v ss.length (ss.map Value.string)
theorem OwnS.keep {base : Nat} {w w' : World} {v : Value} {ss : List ByteArray} (h : OwnS base w v ss) (hb : Below w.heap.size w w') : OwnS base w' v ss := row_keep hb h
theorem OwnS.base {base base' : Nat} {w : World} {v : Value} {ss : List ByteArray} (h : OwnS base w v ss) (hb : base' ≤ base) : OwnS base' w v ss := World.ownsRow.mono h hb
theorem OwnS.strs {base : Nat} {w : World} {v : Value} {ss : List ByteArray} (h : OwnS base w v ss) : StrsAt w v ss := row_strs h
theorem own_s {w : World} {base g cap n : Nat} {l : List ByteArray} (h : w.ownsRow base 9 1 (.slice (some ⟨g, 0, none⟩) n cap) n (l.map Value.string)) (hn : n = l.length) : OwnS base w (.slice (some ⟨g, 0, none⟩) n cap) l := by
  subst hn; exact h
theorem less_kk (a b : ByteArray) : Op.bytesLess a.toList b.toList = decide (kk a < kk b) := by rw [bytesLess_eq, Lib.toList_data, Lib.toList_data]; rfl
theorem eq_kk (a b : ByteArray) : (a.toList == b.toList) = decide (kk a = kk b) := by
  rw [Lib.toList_data, Lib.toList_data]
  by_cases h : a.data.toList = b.data.toList
  · rw [h]; simp [kk, h]
  · simp only [kk, h, decide_false]; exact beq_eq_false_iff_ne.2 h
theorem strs_take {w : World} {va : Option Addr} {vc : Nat} {out : List ByteArray} (h : StrsAt w (.slice va out.length vc) out) (k : Nat) (hk : k ≤ out.length) :
    ∃ a1, (∀ W : World, (Instr.slice 22 (.slice va out.length vc) none (some (.int .i64 (k : Int))) none).run Tryz.prog W = .ok (.slice a1 k vc) W) ∧ (0 < k → ∃ b off, a1 = some ⟨b, off, none⟩ ∧ ∀ j (h : j < (out.take k).length), w.cell? ⟨b, off + j, none⟩ = some (.string (out.take k)[j])) := by
  obtain ⟨a, c, e, h1, h2, h3⟩ := h
  injection e with e1 e2 e3
  subst e1 e3
  refine ⟨if vc = 0 then va else va.map (·.add (0 * 1)), fun W => ?_, fun h0 => ?_⟩
  · rw [run_slice_h W 22 va out.length vc (by kernel_rfl) .i64 (k : Int) (by omega) (by omega)]
    simp [sliced, go_sem]
  · obtain ⟨b, off, rfl, h4⟩ := h3 (by omega)
    refine ⟨b, off, by simp [Addr.add], fun j hj => ?_⟩
    rw [h4 j (by simp at hj; omega)]; simp
theorem strs_drop {w : World} {va : Option Addr} {vc : Nat} {out : List ByteArray} (h : StrsAt w (.slice va out.length vc) out) (k : Nat) (hk : k ≤ out.length) :
    ∃ a2, (∀ W : World, (Instr.slice 22 (.slice va out.length vc) (some (.int .i64 (k : Int))) none none).run Tryz.prog W = .ok (.slice a2 (out.length - k) (vc - k)) W) ∧ (0 < out.length - k → ∃ b off, a2 = some ⟨b, off, none⟩ ∧ ∀ j (h : j < (out.drop k).length), w.cell? ⟨b, off + j, none⟩ = some (.string (out.drop k)[j])) := by
  obtain ⟨a, c, e, h1, h2, h3⟩ := h
  injection e with e1 e2 e3
  subst e1 e3
  refine ⟨if vc = k then va else va.map (·.add (k * 1)), fun W => ?_, fun h0 => ?_⟩
  · rw [run_slice_l W 22 va out.length vc (by kernel_rfl) .i64 (k : Int) (by omega) (by omega)]
    simp [sliced, go_sem]
  · obtain ⟨b, off, rfl, h4⟩ := h3 (by omega)
    refine ⟨b, off + k, by rw [if_neg (by omega)]; simp [Addr.add], fun j hj => ?_⟩
    rw [Nat.add_assoc, h4 (k + j) (by simp at hj; omega)]; simp
theorem news_strs {w : World} {b off : Nat} {l : List ByteArray} (h : ∀ j (h : j < l.length), w.cell? ⟨b, off + j, none⟩ = some (.string l[j])) : ∀ j u, (l.map Value.string)[j]? = some u → w.cell? ((⟨b, off, none⟩ : Addr).add j) = some u := by
  intro j u hu
  obtain ⟨h1, h2⟩ := List.getElem?_eq_some_iff.1 hu
  rw [← h2, List.getElem_map]
  have h3 := h j (by simpa using h1)
  unfold Addr.add
  split
  · rename_i e
    have e2 : j = 0 := by simpa using e
    subst e2
    simpa using h3
  · exact h3
theorem news_oneS (l : List ByteArray) : ∀ u ∈ l.map Value.string, u.oneCell' = true := by
  intro u hu
  obtain ⟨x, _, rfl⟩ := List.mem_map.1 hu
  rfl

set_option maxRecDepth 20000 in
set_option maxHeartbeats 8000000 in
theorem l3Insert_any (v : Value) (out : List ByteArray) (s : ByteArray) (w : World) (base : Nat) (hbase : base ≤ w.heap.size) (hown : OwnS base w v out) (hl : out.length ≤ 1000000) :
    Calls Tryz.prog 144 #[v, .string s] w fun e w' => ∃ v', e = .returned v' ∧ OwnS base w' v' (insS s out) ∧ Below w.heap.size w w' := by
  obtain ⟨i3, hi3, hz3, hs3, hb3⟩ := info_parts Tryz.info9
  have ho := hown.strs
  have HO := hide ho
  have HOW := hide hown
  have HBS := hide hbase
  clear hown hbase
  obtain ⟨va, vc, rfl, hvl, hvm, hvc⟩ := ho
  have HVC := hide hvc
  unfold maxLen at hvm
  clear hvc
  go_enter Tryz.func144, Tryz.ntmps144
  go_wp2_with fail
  go_loopw [5] (fun i wr => ∃ (k : Nat), k ≤ out.length ∧ i = .int .i64 k ∧ w = wr ∧ Hid (∀ j (h : j < out.length), j < k → kk out[j] < kk s)) (fun i _ => out.length - (intOf i).toNat)
  case atStart => exact ⟨0, by omega, rfl, rfl, fun j _ h => by omega⟩
  case round =>
    obtain ⟨k, hk, rfl, rfl, HA⟩ := hrel
    by_cases hlt : k < out.length
    · have hlt' : (k : Int) < out.length := by omega
      obtain ⟨b, off, rfl, hc⟩ := HVC.out (by omega)
      have k1 := hc k hlt
      by_cases hy : kk out[k] < kk s
      · have HG : Hid (∀ j (h : j < out.length), j < k + 1 → kk out[j] < kk s) := by
          intro j h hj
          by_cases e : j = k
          · subst e; exact hy
          · exact HA.out j h (by omega)
        have hb : Op.bytesLess out[k].toList s.toList = true := by rw [less_kk, decide_eq_true hy]
        have HQ1 := hide (show k + 1 ≤ out.length from hlt)
        clear hy HA hc
        generalize out[k] = y at *
        go_wp2_with fail
        go_roundw
        case rel => exact ⟨k + 1, HQ1.out, by go_num, by first | rfl | trivial, HG⟩
        case measure => have := HQ1.out; simp [intOf]; omega
      · have hb : Op.bytesLess out[k].toList s.toList = false := by rw [less_kk, decide_eq_false hy]
        by_cases he : kk out[k] = kk s
        · have HI : Hid (insS s out = out) := by
            show _ = _
            rw [insS_at s k hk HA.out (fun _ => hy), if_pos ⟨hlt, he⟩]
          have qe : (out[k].toList == s.toList) = true := by rw [eq_kk, decide_eq_true he]
          clear hy HA hc he
          generalize out[k] = y at *
          go_wp2_with fail
          go_ret
          refine ⟨_, rfl, ?_, Below.refl _ _⟩
          rw [HI.out]
          exact HOW.out
        · have HI : Hid (insS s out = out.take k ++ [s] ++ out.drop k) := by
            show _ = _
            rw [insS_at s k hk HA.out (fun _ => hy), if_neg (by rintro ⟨_, h⟩; exact he h)]
          have qe : (out[k].toList == s.toList) = false := by rw [eq_kk, decide_eq_false he]
          clear hy HA hc he
          generalize out[k] = y at *
          obtain ⟨t1, hsh, HT1⟩ := strs_take HO.out k hk
          obtain ⟨t2, hsl, HT2⟩ := strs_drop HO.out k hk
          have HX1 := hide HT1
          have HX2 := hide HT2
          clear HT1 HT2
          by_cases hk0 : k = 0
          · have HK0 := hide hk0
            have hsh0 : ∀ W : World, (Instr.slice 22 (.slice (some ⟨b, off, none⟩) out.length vc) none (some (.int .i64 (k : Int))) none).run Tryz.prog W = .ok (.slice t1 0 vc) W := fun W => by rw [hsh W, HK0.out]
            clear hsh hk0
            obtain ⟨db, dof, rfl, DC⟩ := HX2.out (by omega)
            have HDC := hide DC
            clear DC
            have HOWN := hide ((World.ownsRow_lit (base := w.heap.size) (e := 9) (size := 1) w #[] 0 (by omega) (by unfold maxLen; omega) rfl).alloc (.cells #[.string s] 9))
            have HB4 := hide (bel_alloc (bel_alloc (Below.refl w.heap.size w) (.cells #[] 9)) (.cells #[.string s] 9))
            have HCN : Hid (∀ (j : Nat) (u : Value), [Value.string s][j]? = some u → ((w.alloc (.cells #[] 9)).alloc (.cells #[.string s] 9)).cell? ((⟨w.heap.size + 1, 0, none⟩ : Addr).add j) = some u) := fun j u h => by have h2 := cell_one_new (w.alloc (.cells #[] 9)) (.string s) 9 j u h; rw [show (w.alloc (.cells #[] 9)).heap.size = w.heap.size + 1 from by simp] at h2; exact h2
            go_wp2_with (at_builtin; first | refine wpList_append_none rfl _ _ 22 rfl 9 i3 Tryz.underlying22 hi3 (some ⟨w.heap.size, 0, none⟩) 0 0 (Nat.le_refl _) t1 vc rfl rfl ?_ | refine wpList_append_lies _ rfl _ _ 22 rfl w.heap.size 9 i3 (.string ⟨#[]⟩) 1 16 Tryz.underlying22 hi3 hz3 hs3 hb3 rfl (by omega) (.slice (some ⟨w.heap.size, 0, none⟩) 0 0) 0 [] rfl HOWN.out ⟨w.heap.size + 1, 0, none⟩ 1 1 [.string s] rfl rfl HCN.out (by intro u hu; simp at hu; subst hu; rfl) (by omega) (by unfold maxLen; omega) (by omega) (by first | (simp; done) | (simp; omega)) _ rfl ?_)
            intro g4 cap4 w4 hown4 hgrow4 hat4 hlt4
            have HB5 := hide ((HB4.out).grown hgrow4 (by first | (simp; done) | (simp; omega)) (fun k hk => by simp [Value.ownBlock] at hk; omega))
            have hown4' : w4.ownsRow w.heap.size 9 1 (.slice (some ⟨g4, 0, none⟩) 1 cap4) 1 ([s].map Value.string) := by simpa using hown4
            have HOWN4 := hide hown4'
            have hg4 := (World.ownsRow.lt hown4 g4 rfl).1
            have hw4 := HB5.out.size
            clear hgrow4 hown4 hown4' hat4
            have HN5 := hide (news_strs (l := out.drop k) (fun j h => keep_cell HB5.out (HDC.out j h)))
            go_wp2_with (at_builtin; refine wpList_append_lies _ rfl _ _ 22 rfl w.heap.size 9 i3 (.string ⟨#[]⟩) 1 16 Tryz.underlying22 hi3 hz3 hs3 hb3 rfl (by omega) (.slice (some ⟨g4, 0, none⟩) 1 cap4) 1 _ rfl HOWN4.out ⟨db, dof, none⟩ (out.length - k) (vc - k) ((out.drop k).map Value.string) rfl (by simp) HN5.out (news_oneS _) (by omega) (by unfold maxLen; omega) (by omega) (by omega) _ rfl ?_)
            intro g5 cap5 w5 hown5 hgrow5 hat5 hlt5
            have HB6 := hide ((HB5.out).grown hgrow5 (by omega) (fun k hk => by simp [Value.ownBlock] at hk; omega))
            have HOWN5 := hide hown5
            clear hgrow5 hown5 hat5
            go_wp2_with fail
            go_ret
            refine ⟨_, rfl, ?_, HB6.out⟩
            rw [HI.out]
            have e : out.take k = [] := by rw [HK0.out]; rfl
            rw [e]
            exact (own_s (by simpa using HOWN5.out) (by first | (simp; done) | (simp; omega))).base HBS.out
          · obtain ⟨tb, tof, rfl, TC⟩ := HX1.out (by omega)
            have HTC := hide TC
            clear TC
            obtain ⟨db, dof, rfl, DC⟩ := HX2.out (by omega)
            have HDC := hide DC
            clear DC
            have HOWN0 := hide (World.ownsRow_lit (base := w.heap.size) (e := 9) (size := 1) w #[] 0 (by omega) (by unfold maxLen; omega) rfl)
            have HB0 := hide (bel_alloc (Below.refl w.heap.size w) (.cells #[] 9))
            have HN0 := hide (news_strs (l := out.take k) (fun j h => keep_cell HB0.out (HTC.out j h)))
            have HTL : Hid ((out.take k).length = k) := by show _ = _; simp; omega
            go_wp2_with (at_builtin; refine wpList_append_lies _ rfl _ _ 22 rfl w.heap.size 9 i3 (.string ⟨#[]⟩) 1 16 Tryz.underlying22 hi3 hz3 hs3 hb3 rfl (by omega) (.slice (some ⟨w.heap.size, 0, none⟩) 0 0) 0 [] rfl HOWN0.out ⟨tb, tof, none⟩ k vc ((out.take k).map Value.string) rfl (by rw [List.length_map, HTL.out]; omega) HN0.out (news_oneS _) (by omega) (by unfold maxLen; omega) (by omega) (by first | (simp; done) | (simp; omega)) _ rfl ?_)
            intro g3 cap3 w3 hown3 hgrow3 hat3 hlt3
            have HB3 := hide ((HB0.out).grown hgrow3 (by first | (simp; done) | (simp; omega)) (fun k hk => by simp [Value.ownBlock] at hk; omega))
            have hown3' : w3.ownsRow w.heap.size 9 1 (.slice (some ⟨g3, 0, none⟩) k cap3) k ((out.take k).map Value.string) := by simpa using hown3
            have HOWN := hide (hown3'.alloc (.cells #[.string s] 9))
            have hg3 := (World.ownsRow.lt hown3 g3 rfl).1
            have HB4 := hide (bel_alloc HB3.out (.cells #[.string s] 9))
            have hw3 := HB3.out.size
            clear hgrow3 hown3 hat3 hown3'
            go_wp2_with (at_builtin; refine wpList_append_lies _ rfl _ _ 22 rfl w.heap.size 9 i3 (.string ⟨#[]⟩) 1 16 Tryz.underlying22 hi3 hz3 hs3 hb3 rfl (by omega) (.slice (some ⟨g3, 0, none⟩) k cap3) k _ rfl HOWN.out ⟨w3.heap.size, 0, none⟩ 1 1 [.string s] rfl rfl (cell_one_new _ _ _) (by intro u hu; simp at hu; subst hu; rfl) (by omega) (by unfold maxLen; omega) (by omega) (by first | (simp; done) | (simp; omega)) _ rfl ?_)
            intro g4 cap4 w4 hown4 hgrow4 hat4 hlt4
            have HB5 := hide ((HB4.out).grown hgrow4 (by first | (simp; done) | (simp; omega)) (fun k hk => by simp [Value.ownBlock] at hk; omega))
            have hown4' : w4.ownsRow w.heap.size 9 1 (.slice (some ⟨g4, 0, none⟩) (k + 1) cap4) (k + 1) ((out.take k ++ [s]).map Value.string) := by simpa using hown4
            have HOWN4 := hide hown4'
            have hg4 := (World.ownsRow.lt hown4 g4 rfl).1
            have hw4 := HB5.out.size
            clear hgrow4 hown4 hown4' hat4
            have HN5 := hide (news_strs (l := out.drop k) (fun j h => keep_cell HB5.out (HDC.out j h)))
            go_wp2_with (at_builtin; refine wpList_append_lies _ rfl _ _ 22 rfl w.heap.size 9 i3 (.string ⟨#[]⟩) 1 16 Tryz.underlying22 hi3 hz3 hs3 hb3 rfl (by omega) (.slice (some ⟨g4, 0, none⟩) (k + 1) cap4) (k + 1) _ rfl HOWN4.out ⟨db, dof, none⟩ (out.length - k) (vc - k) ((out.drop k).map Value.string) rfl (by simp) HN5.out (news_oneS _) (by omega) (by unfold maxLen; omega) (by omega) (by omega) _ rfl ?_)
            intro g5 cap5 w5 hown5 hgrow5 hat5 hlt5
            have HB6 := hide ((HB5.out).grown hgrow5 (by omega) (fun k hk => by simp [Value.ownBlock] at hk; omega))
            have HOWN5 := hide hown5
            clear hgrow5 hown5 hat5
            go_wp2_with fail
            go_ret
            refine ⟨_, rfl, ?_, HB6.out⟩
            rw [HI.out]
            exact (own_s (by simpa using HOWN5.out) (by first | (simp; done) | (simp; omega))).base HBS.out
    · have HI : Hid (insS s out = out.take k ++ [s] ++ out.drop k) := by
        show _ = _
        rw [insS_at s k hk HA.out (fun h => absurd h hlt), if_neg (by rintro ⟨h, _⟩; exact hlt h)]
      have hlt' : ¬ (k : Int) < out.length := by omega
      clear HA
      obtain ⟨t1, hsh, HT1⟩ := strs_take HO.out k hk
      obtain ⟨t2, hsl, HT2⟩ := strs_drop HO.out k hk
      have HX1 := hide HT1
      have HX2 := hide HT2
      clear HT1 HT2
      by_cases hk0 : k = 0
      · have HK0 := hide hk0
        have hsh0 : ∀ W : World, (Instr.slice 22 (.slice va out.length vc) none (some (.int .i64 (k : Int))) none).run Tryz.prog W = .ok (.slice t1 0 vc) W := fun W => by rw [hsh W, HK0.out]
        clear hsh hk0
        have hsl0 : ∀ W : World, (Instr.slice 22 (.slice va out.length vc) (some (.int .i64 (k : Int))) none none).run Tryz.prog W = .ok (.slice t2 0 (vc - k)) W := fun W => by rw [hsl W]; congr 2; omega
        clear hsl
        have HOWN := hide ((World.ownsRow_lit (base := w.heap.size) (e := 9) (size := 1) w #[] 0 (by omega) (by unfold maxLen; omega) rfl).alloc (.cells #[.string s] 9))
        have HB4 := hide (bel_alloc (bel_alloc (Below.refl w.heap.size w) (.cells #[] 9)) (.cells #[.string s] 9))
        have HCN : Hid (∀ (j : Nat) (u : Value), [Value.string s][j]? = some u → ((w.alloc (.cells #[] 9)).alloc (.cells #[.string s] 9)).cell? ((⟨w.heap.size + 1, 0, none⟩ : Addr).add j) = some u) := fun j u h => by have h2 := cell_one_new (w.alloc (.cells #[] 9)) (.string s) 9 j u h; rw [show (w.alloc (.cells #[] 9)).heap.size = w.heap.size + 1 from by simp] at h2; exact h2
        go_wp2_with (at_builtin; first | refine wpList_append_none rfl _ _ 22 rfl 9 i3 Tryz.underlying22 hi3 (some ⟨w.heap.size, 0, none⟩) 0 0 (Nat.le_refl _) t1 vc rfl rfl ?_ | refine wpList_append_lies _ rfl _ _ 22 rfl w.heap.size 9 i3 (.string ⟨#[]⟩) 1 16 Tryz.underlying22 hi3 hz3 hs3 hb3 rfl (by omega) (.slice (some ⟨w.heap.size, 0, none⟩) 0 0) 0 [] rfl HOWN.out ⟨w.heap.size + 1, 0, none⟩ 1 1 [.string s] rfl rfl HCN.out (by intro u hu; simp at hu; subst hu; rfl) (by omega) (by unfold maxLen; omega) (by omega) (by first | (simp; done) | (simp; omega)) _ rfl ?_)
        intro g4 cap4 w4 hown4 hgrow4 hat4 hlt4
        have HB5 := hide ((HB4.out).grown hgrow4 (by first | (simp; done) | (simp; omega)) (fun k hk => by simp [Value.ownBlock] at hk; omega))
        have hown4' : w4.ownsRow w.heap.size 9 1 (.slice (some ⟨g4, 0, none⟩) 1 cap4) 1 ([s].map Value.string) := by simpa using hown4
        have HOWN4 := hide hown4'
        have hg4 := (World.ownsRow.lt hown4 g4 rfl).1
        have hw4 := HB5.out.size
        clear hgrow4 hown4 hown4' hat4
        go_wp2_with (at_builtin; refine wpList_append_none rfl _ _ 22 rfl 9 i3 Tryz.underlying22 hi3 (some ⟨g4, 0, none⟩) 1 cap4 (ownsRow_cap HOWN4.out).1 t2 (vc - k) rfl rfl ?_)
        go_ret
        refine ⟨_, rfl, ?_, HB5.out⟩
        rw [HI.out]
        have e : out.take k = [] := by rw [HK0.out]; rfl
        rw [e]
        have e2 : out.drop k = [] := List.drop_eq_nil_of_le (by omega)
        rw [e2]
        exact (own_s (by simpa using HOWN4.out) (by first | (simp; done) | (simp; omega))).base HBS.out
      · obtain ⟨tb, tof, rfl, TC⟩ := HX1.out (by omega)
        have HTC := hide TC
        clear TC
        have hsl0 : ∀ W : World, (Instr.slice 22 (.slice va out.length vc) (some (.int .i64 (k : Int))) none none).run Tryz.prog W = .ok (.slice t2 0 (vc - k)) W := fun W => by rw [hsl W]; congr 2; omega
        clear hsl
        have HOWN0 := hide (World.ownsRow_lit (base := w.heap.size) (e := 9) (size := 1) w #[] 0 (by omega) (by unfold maxLen; omega) rfl)
        have HB0 := hide (bel_alloc (Below.refl w.heap.size w) (.cells #[] 9))
        have HN0 := hide (news_strs (l := out.take k) (fun j h => keep_cell HB0.out (HTC.out j h)))
        have HTL : Hid ((out.take k).length = k) := by show _ = _; simp; omega
        go_wp2_with (at_builtin; refine wpList_append_lies _ rfl _ _ 22 rfl w.heap.size 9 i3 (.string ⟨#[]⟩) 1 16 Tryz.underlying22 hi3 hz3 hs3 hb3 rfl (by omega) (.slice (some ⟨w.heap.size, 0, none⟩) 0 0) 0 [] rfl HOWN0.out ⟨tb, tof, none⟩ k vc ((out.take k).map Value.string) rfl (by rw [List.length_map, HTL.out]; omega) HN0.out (news_oneS _) (by omega) (by unfold maxLen; omega) (by omega) (by first | (simp; done) | (simp; omega)) _ rfl ?_)
        intro g3 cap3 w3 hown3 hgrow3 hat3 hlt3
        have HB3 := hide ((HB0.out).grown hgrow3 (by first | (simp; done) | (simp; omega)) (fun k hk => by simp [Value.ownBlock] at hk; omega))
        have hown3' : w3.ownsRow w.heap.size 9 1 (.slice (some ⟨g3, 0, none⟩) k cap3) k ((out.take k).map Value.string) := by simpa using hown3
        have HOWN := hide (hown3'.alloc (.cells #[.string s] 9))
        have hg3 := (World.ownsRow.lt hown3 g3 rfl).1
        have HB4 := hide (bel_alloc HB3.out (.cells #[.string s] 9))
        have hw3 := HB3.out.size
        clear hgrow3 hown3 hat3 hown3'
        go_wp2_with (at_builtin; refine wpList_append_lies _ rfl _ _ 22 rfl w.heap.size 9 i3 (.string ⟨#[]⟩) 1 16 Tryz.underlying22 hi3 hz3 hs3 hb3 rfl (by omega) (.slice (some ⟨g3, 0, none⟩) k cap3) k _ rfl HOWN.out ⟨w3.heap.size, 0, none⟩ 1 1 [.string s] rfl rfl (cell_one_new _ _ _) (by intro u hu; simp at hu; subst hu; rfl) (by omega) (by unfold maxLen; omega) (by omega) (by first | (simp; done) | (simp; omega)) _ rfl ?_)
        intro g4 cap4 w4 hown4 hgrow4 hat4 hlt4
        have HB5 := hide ((HB4.out).grown hgrow4 (by first | (simp; done) | (simp; omega)) (fun k hk => by simp [Value.ownBlock] at hk; omega))
        have hown4' : w4.ownsRow w.heap.size 9 1 (.slice (some ⟨g4, 0, none⟩) (k + 1) cap4) (k + 1) ((out.take k ++ [s]).map Value.string) := by simpa using hown4
        have HOWN4 := hide hown4'
        have hg4 := (World.ownsRow.lt hown4 g4 rfl).1
        have hw4 := HB5.out.size
        clear hgrow4 hown4 hown4' hat4
        go_wp2_with (at_builtin; refine wpList_append_none rfl _ _ 22 rfl 9 i3 Tryz.underlying22 hi3 (some ⟨g4, 0, none⟩) (k + 1) cap4 (ownsRow_cap HOWN4.out).1 t2 (vc - k) rfl rfl ?_)
        go_ret
        refine ⟨_, rfl, ?_, HB5.out⟩
        rw [HI.out]
        have e2 : out.drop k = [] := List.drop_eq_nil_of_le (by omega)
        rw [e2]
        exact (own_s (by simpa using HOWN4.out) (by first | (simp; done) | (simp; omega))).base HBS.out
end Go.Proofs.YtpmpooekpeocdaaGreat
