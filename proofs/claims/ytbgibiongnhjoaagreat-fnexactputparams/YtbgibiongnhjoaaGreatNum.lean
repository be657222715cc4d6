/- What write answers at the program's trees of levels: the nodes behind those that are there. -/
import Derived.Test.YtbgibiongnhjoaaGreatWrB
import Derived.Test.YtbgibiongnhjoaaGreatImpl
import Derived.Deep.RegionWith
import Derived.Deep.RegionHeld3
namespace Go.Proofs.YtbgibiongnhjoaaGreat
open Go.ChangeShapes Go.WideShapes Go.ChangeAt Go.RowKit


theorem NdW.row_lt {base : Nat} {w : World} {v : Value} {ns : List Nd} (h : NdW base w v ns) : ∀ q, v.ownBlock = some q → base ≤ q ∧ q < w.heap.size := by
  obtain ⟨xs, h1, _⟩ := h
  exact fun q hq => World.ownsRow.lt h1 q hq

set_option maxRecDepth 20000 in
set_option maxHeartbeats 4000000 in
theorem write_succ (m : Nat) (x : It) (ih : WriteAt x) : WriteAt (.succ m x) := by
  intro w ao n cap ns base hn hW hb hl
  obtain ⟨i87, hi87, hz87, hs87, hb87⟩ := info_parts Tryz.info174
  have hm := It.write_m x
  have he := It.write_e x
  simp only [It.pay, It.cnt, It.wrf, It.flat] at hl ⊢
  rw [It.val_pay x]
  have HRL := hide hW.row_lt
  have HIH := hide (ih (w.alloc (.cells #[.int .i64 m, .iface x.tid x.pay] 242)) ao n cap ns base hn (hW.keep (bel_alloc (Below.refl _ _) _)) (by simp; omega) (by omega))
  have HFL := hide (It.flat_len x n)
  have hxp := x.cnt_pos
  generalize x.wrf = f at *
  generalize x.tid = T at *
  generalize x.pay = v at *
  generalize x.flat n = fl at *
  generalize x.cnt = y at *
  have HN := hide hn
  have hy : y ≤ 1000 := by omega
  have hm1 : m ≤ 1000 := by omega
  have hn1 : n ≤ 1000 := by omega
  clear hn hW ih
  obtain ⟨row, hrow⟩ : ∃ row, row = (Value.slice ao n cap).ownBlock := ⟨_, rfl⟩
  rw [← hrow] at HRL HIH ⊢
  clear hrow
  go_enter Tryz.func240, Tryz.ntmps240
  go_wp2_with fail
  refine HIH.out.mono ?_
  rintro e w2 ⟨g2, cap2, rfl, hn2, hg2, hat2⟩
  have hsz2 : w.heap.size + 1 ≤ w2.heap.size := by have := hg2.size; simpa using this
  have x0 := (hg2.cell_far ⟨w.heap.size, 0, none⟩ (by show w.heap.size < _; simp) (by intro h; have := (HRL.out w.heap.size h.symm).2; omega)).trans (show (w.alloc (.cells #[.int .i64 m, .iface T v] 242)).cell? ⟨w.heap.size, 0, none⟩ = some (.int .i64 m) by simp [go_sem])
  have HG2 := hide (((grown_of (bel_alloc (Below.refl w.heap.size w) _)).but row).trans hg2)
  have HAT2 : Hid (row = some g2 ∨ w.heap.size ≤ g2) := by
    rcases hat2 with h | h
    · exact .inl h
    · exact .inr (by simp at h; omega)
  have HN2 := hide hn2
  clear hn2 hg2 hat2 HIH
  go_wp2_with fail
  go_loopw [1, 11] (fun s i wr => ∃ (k g c : Nat), k ≤ m ∧ i = .int .i64 k ∧ s = .slice (some ⟨g, 0, none⟩) (n + y + k) c ∧ Hid (NdW base wr (.slice (some ⟨g, 0, none⟩) (n + y + k) c) (ns ++ fl ++ sNodes k (n + y))) ∧ Hid (w.grownBy wr row) ∧ Hid (row = some g ∨ w.heap.size ≤ g)) (fun _ i _ => m - (intOf i).toNat)
  case atStart => exact ⟨0, g2, cap2, by omega, rfl, by simp, by simp only [sNodes, List.append_nil, Nat.add_zero]; exact HN2.out, HG2, HAT2⟩
  case round =>
    obtain ⟨k, g, c, hk, rfl, rfl, HNk, HGk, HATk⟩ := hrel
    clear HN2 HG2 HAT2 x0
    have hbk : base ≤ wr.heap.size := by have := HGk.out.size; omega
    have hsk : w.heap.size ≤ wr.heap.size := HGk.out.size
    obtain ⟨L, hL⟩ : ∃ L, L = n + y + k := ⟨_, rfl⟩
    have HL := hide hL
    rw [← hL] at HNk ⊢
    have hL1 : 1 ≤ L := by omega
    have hL2 : L ≤ 1000 := by omega
    have hLc : (ns ++ fl ++ sNodes k (n + y)).length = L := by have := HN.out; have := HFL.out; simp [sNodes_len]; omega
    have HLC := hide hLc
    have hwL : IntKind.i64.wrap ((L : Int) - 1) = (L : Int) - 1 := by rw [IntKind.wrap_i64]; omega
    clear hL hLc
    by_cases hlt : k < m
    · have hlt' : (k : Int) < m := by omega
      obtain ⟨xs, ho, hx, hap⟩ := HNk.out
      have HO := hide ho
      have HOL := hide (show wr.ownsRow base 174 3 (.slice (some ⟨g, 0, none⟩) L c) L xs by have := ho; rwa [HLC.out] at this)
      have HX := hide hx
      have HAP := hide hap
      have HK := hide (World.ownsRow_lit (base := base) (e := 3) (size := 1) wr #[.int .i64 ((L : Int) - 1)] 1 hbk (by unfold maxLen; omega) rfl)
      clear ho hx hap
      go_wp2_with (first
        | (at_builtin; refine wpList_append_lies _ rfl _ _ 109 rfl base 174 i87 (.agg #[.int .i64 0, .string ⟨#[]⟩, .slice none 0 0]) 3 48 Tryz.underlying109 hi87 hz87 hs87 hb87 rfl (by omega) (.slice (some ⟨g, 0, none⟩) L c) L xs rfl ((HOL.out.alloc _).alloc _) ⟨wr.heap.size + 1, 0, none⟩ 1 1 [.int .i64 2, .string ⟨#[]⟩, .slice (some ⟨wr.heap.size, 0, none⟩) 1 1] rfl rfl (World.news_of_block (cs := #[.int .i64 2, .string ⟨#[]⟩, .slice (some ⟨wr.heap.size, 0, none⟩) 1 1]) (t := 174) (fr := (0, 0)) (alloc2_block wr _ _ 1)) (by intro u hu; simp at hu; rcases hu with rfl | rfl | rfl <;> rfl) (by omega) (by unfold maxLen; omega) (by omega) (by simp; omega) (wr.heap.size + 1 + 1) (by simp) ?_
           intro g4 cap4 w4 hown4 hgrow4 hat4 hlt4)
        | fail)
      have hend := NdW.snoc (nd := ⟨2, ⟨#[]⟩, [(L : Int) - 1]⟩) (bel_alloc (bel_alloc (Below.refl wr.heap.size wr) _) _) HO.out HX.out HAP.out (HK.out.alloc _) (fun b hb => by simp [Value.ownBlock] at hb; omega) hgrow4 (by rw [HLC.out]; exact hown4)
      rw [HLC.out] at hend
      have HE := hide hend
      have HAT4 : Hid (row = some g4 ∨ w.heap.size ≤ g4) := by
        rcases hat4 with h | h
        · simp [Value.ownBlock] at h; rw [← h]; exact HATk.out
        · exact .inr (by omega)
      have HG4 := hide (HGk.out.andThen hend.2 (fun q hq => by simp [Value.ownBlock] at hq; subst hq; rcases HATk.out with h | h; exact .inr h; exact .inl h))
      have HFLK : Hid (ns ++ fl ++ sNodes (k + 1) (n + y) = ns ++ fl ++ sNodes k (n + y) ++ [⟨2, ⟨#[]⟩, [(L : Int) - 1]⟩]) := by
        show _ = _
        have := HL.out
        simp only [sNodes, ← List.append_assoc]
        rw [show ((n + y + k - 1 : Nat) : Int) = (L : Int) - 1 from by omega]
      clear hend hown4 hgrow4 hat4 hlt4
      go_wp2_with fail
      go_roundw
      case rel => exact ⟨k + 1, g4, cap4, by omega, by go_num, by have := HL.out; rw [show n + y + (k + 1) = L + 1 by omega], by have := HL.out; show NdW _ _ _ _; rw [HFLK.out, show n + y + (k + 1) = L + 1 by omega]; exact HE.out.1, HG4, HAT4⟩
      case measure => simp [intOf]; omega
    · have hkm : k = m := by omega
      subst hkm
      go_wp2_with fail
      go_ret
      exact ⟨g, c, by have := HL.out; rw [show n + (k + y) = L by omega]; rfl, by have := HL.out; rw [show n + (k + y) = L by omega, ← List.append_assoc]; exact HNk.out, HGk.out, HATk.out⟩

set_option maxRecDepth 20000 in
set_option maxHeartbeats 4000000 in
theorem writePair_any (kd : Int) (a b : It) (iha : WriteAt a) (ihb : WriteAt b) (w : World) (ao : Option Addr) (n cap : Nat) (ns : List Nd) (base : Nat) (hn : ns.length = n) (hW : NdW base w (.slice ao n cap) ns) (hb : base ≤ w.heap.size) (hl : n + (a.cnt + b.cnt + 1) ≤ 1000) :
    Calls Tryz.prog 243 #[.slice ao n cap, .int .i64 kd, .iface a.tid a.pay, .iface b.tid b.pay] w fun e w' => ∃ g' cap', e = .returned (.slice (some ⟨g', 0, none⟩) (n + (a.cnt + b.cnt + 1)) cap') ∧ NdW base w' (.slice (some ⟨g', 0, none⟩) (n + (a.cnt + b.cnt + 1)) cap') (ns ++ (a.flat n ++ b.flat (n + a.cnt) ++ [⟨kd, ⟨#[]⟩, [((n + a.cnt - 1 : Nat) : Int), ((n + a.cnt + b.cnt - 1 : Nat) : Int)]⟩])) ∧ w.grownBy w' (Value.slice ao n cap).ownBlock ∧ ((Value.slice ao n cap).ownBlock = some g' ∨ w.heap.size ≤ g') := by
  obtain ⟨i87, hi87, hz87, hs87, hb87⟩ := info_parts Tryz.info174
  have hma := It.write_m a
  have hea := It.write_e a
  have hmb := It.write_m b
  have heb := It.write_e b
  have HIA := hide (iha w ao n cap ns base hn hW hb (by omega))
  have HIB := hide (show ∀ w2 g2 cap2, NdW base w2 (.slice (some ⟨g2, 0, none⟩) (n + a.cnt) cap2) (ns ++ a.flat n) → base ≤ w2.heap.size → _ from fun w2 g2 cap2 h1 h2 => ihb w2 (some ⟨g2, 0, none⟩) (n + a.cnt) cap2 (ns ++ a.flat n) base (by rw [List.length_append, It.flat_len, hn]) h1 h2 (by omega))
  have HFA := hide (It.flat_len a n)
  have HFB := hide (It.flat_len b (n + a.cnt))
  have hap := a.cnt_pos
  have hbp := b.cnt_pos
  generalize a.wrf = fa at *
  generalize a.tid = Ta at *
  generalize a.pay = va at *
  generalize b.wrf = fb at *
  generalize b.tid = Tb at *
  generalize b.pay = vb at *
  generalize b.flat (n + a.cnt) = flb at *
  generalize a.flat n = fla at *
  generalize a.cnt = x at *
  generalize b.cnt = y at *
  have HN := hide hn
  clear hn hW iha ihb
  obtain ⟨row, hrow⟩ : ∃ row, row = (Value.slice ao n cap).ownBlock := ⟨_, rfl⟩
  rw [← hrow] at HIA ⊢
  clear hrow
  have hx1 : n + x ≤ 1000 := by omega
  go_enter Tryz.func243, Tryz.ntmps243
  go_wp2_with fail
  refine HIA.out.mono ?_
  rintro e w2 ⟨g2, cap2, rfl, hn2, hg2, hat2⟩
  have hsz2 := hg2.size
  have HIB2 := hide (HIB.out w2 g2 cap2 hn2 (by omega))
  have HG2 := hide hg2
  have HAT2 := hide hat2
  obtain ⟨L, hL⟩ : ∃ L, L = n + x := ⟨_, rfl⟩
  rw [← hL] at HIB2 ⊢
  have HL := hide hL
  have hL1 : 1 ≤ L := by omega
  have hL2 : L ≤ 1000 := by omega
  have hwL : IntKind.i64.wrap ((L : Int) - 1) = (L : Int) - 1 := by rw [IntKind.wrap_i64]; omega
  clear hn2 hg2 hat2 HIA HIB hL hx1
  go_wp2_with fail
  refine HIB2.out.mono ?_
  rintro e w3 ⟨g3, cap3, rfl, hn3, hg3, hat3⟩
  have hsz3 := hg3.size
  have HG3 := hide (HG2.out.andThen hg3 (fun q hq => by simp [Value.ownBlock] at hq; subst hq; rcases HAT2.out with h | h; exact .inr h; exact .inl h))
  have HAT3 : Hid (row = some g3 ∨ w.heap.size ≤ g3) := by
    rcases hat3 with h | h
    · simp [Value.ownBlock] at h; rw [← h]; exact HAT2.out
    · exact .inr (by omega)
  obtain ⟨M, hM⟩ : ∃ M, M = L + y := ⟨_, rfl⟩
  rw [← hM] at hn3 ⊢
  have HM := hide hM
  have hM1 : 1 ≤ M := by omega
  have hM2 : M ≤ 1000 := by have := HL.out; omega
  have hwM : IntKind.i64.wrap ((M : Int) - 1) = (M : Int) - 1 := by rw [IntKind.wrap_i64]; omega
  have HMC : Hid ((ns ++ fla ++ flb).length = M) := by show _ = _; have := HN.out; have := HFA.out; have := HFB.out; have := HL.out; simp; omega
  obtain ⟨xs, ho, hx, hap3⟩ := hn3
  have hb3 : base ≤ w3.heap.size := by omega
  have HO := hide ho
  have HOL := hide (show w3.ownsRow base 174 3 (.slice (some ⟨g3, 0, none⟩) M cap3) M xs by have := ho; rwa [HMC.out] at this)
  have HX := hide hx
  have HAP := hide hap3
  have HK := hide (World.ownsRow_lit (base := base) (e := 3) (size := 1) w3 #[.int .i64 ((L : Int) - 1), .int .i64 ((M : Int) - 1)] 2 hb3 (by unfold maxLen; omega) rfl)
  clear ho hx hap3 hg3 hat3 hM HIB2 HG2 HAT2
  go_wp2_with (first
    | (at_builtin; refine wpList_append_lies _ rfl _ _ 109 rfl base 174 i87 (.agg #[.int .i64 0, .string ⟨#[]⟩, .slice none 0 0]) 3 48 Tryz.underlying109 hi87 hz87 hs87 hb87 rfl (by omega) (.slice (some ⟨g3, 0, none⟩) M cap3) M xs rfl ((HOL.out.alloc _).alloc _) ⟨w3.heap.size + 1, 0, none⟩ 1 1 [.int .i64 kd, .string ⟨#[]⟩, .slice (some ⟨w3.heap.size, 0, none⟩) 2 2] rfl rfl (World.news_of_block (cs := #[.int .i64 kd, .string ⟨#[]⟩, .slice (some ⟨w3.heap.size, 0, none⟩) 2 2]) (t := 174) (fr := (0, 0)) (alloc2_block w3 _ _ 1)) (by intro u hu; simp at hu; rcases hu with rfl | rfl | rfl <;> rfl) (by omega) (by unfold maxLen; omega) (by omega) (by simp; omega) (w3.heap.size + 1 + 1) (by simp) ?_
       intro g4 cap4 w4 hown4 hgrow4 hat4 hlt4)
    | fail)
  have hend := NdW.snoc (nd := ⟨kd, ⟨#[]⟩, [(L : Int) - 1, (M : Int) - 1]⟩) (bel_alloc (bel_alloc (Below.refl w3.heap.size w3) _) _) HO.out HX.out HAP.out (HK.out.alloc _) (fun b hb => by simp [Value.ownBlock] at hb; omega) hgrow4 (by rw [HMC.out]; exact hown4)
  rw [HMC.out] at hend
  have HE := hide hend
  have HAT4 : Hid (row = some g4 ∨ w.heap.size ≤ g4) := by
    rcases hat4 with h | h
    · simp [Value.ownBlock] at h; rw [← h]; exact HAT3.out
    · exact .inr (by omega)
  have HG4 := hide (HG3.out.andThen hend.2 (fun q hq => by simp [Value.ownBlock] at hq; subst hq; rcases HAT3.out with h | h; exact .inr h; exact .inl h))
  have HFL : Hid (ns ++ (fla ++ flb ++ [⟨kd, ⟨#[]⟩, [((n + x - 1 : Nat) : Int), ((n + x + y - 1 : Nat) : Int)]⟩]) = ns ++ fla ++ flb ++ [⟨kd, ⟨#[]⟩, [(L : Int) - 1, (M : Int) - 1]⟩]) := by
    show _ = _
    have := HL.out
    have := HM.out
    simp only [← List.append_assoc]
    rw [show ((n + x - 1 : Nat) : Int) = (L : Int) - 1 from by omega, show ((n + x + y - 1 : Nat) : Int) = (M : Int) - 1 from by omega]
  have HMN : Hid (n + (x + y + 1) = M + 1) := by show _ = _; have := HL.out; have := HM.out; omega
  clear hend hown4 hgrow4 hat4 hlt4
  go_wp2_with fail
  go_ret
  exact ⟨g4, cap4, by rw [HMN.out]; rfl, by rw [HFL.out, HMN.out]; exact HE.out.1, HG4.out, HAT4.out⟩

set_option maxHeartbeats 2000000 in
theorem write_max (a b : It) (iha : WriteAt a) (ihb : WriteAt b) : WriteAt (.max a b) := by
  intro w ao n cap ns base hn hW hb hl
  have HRL := hide hW.row_lt
  have HP := hide (writePair_any 3 a b iha ihb (w.alloc (.cells #[.iface a.tid a.pay, .iface b.tid b.pay] 245)) ao n cap ns base hn (hW.keep (bel_alloc (Below.refl _ _) _)) (by simp; omega) (by simp only [It.cnt] at hl; omega))
  simp only [It.pay, It.cnt, It.wrf, It.flat]
  rw [It.val_pay a, It.val_pay b]
  generalize a.tid = Ta at *
  generalize a.pay = va at *
  generalize b.tid = Tb at *
  generalize b.pay = vb at *
  clear hW iha ihb hl
  go_enter Tryz.func242, Tryz.ntmps242
  go_wp2_with fail
  refine HP.out.mono ?_
  rintro e w2 ⟨g2, cap2, rfl, hn2, hg2, hat2⟩
  have HN2 := hide hn2
  have HG2 := hide (((grown_of (bel_alloc (Below.refl w.heap.size w) _)).but (Value.slice ao n cap).ownBlock).trans hg2)
  have HAT2 : Hid ((Value.slice ao n cap).ownBlock = some g2 ∨ w.heap.size ≤ g2) := by
    rcases hat2 with h | h
    · exact .inl h
    · exact .inr (by simp at h; omega)
  clear hn2 hg2 hat2
  go_wp2_with fail
  go_ret
  exact ⟨g2, cap2, rfl, HN2.out, HG2.out, HAT2.out⟩

set_option maxHeartbeats 2000000 in
theorem write_imax (a b : It) (iha : WriteAt a) (ihb : WriteAt b) : WriteAt (.imax a b) := by
  intro w ao n cap ns base hn hW hb hl
  have HRL := hide hW.row_lt
  have HP := hide (writePair_any 4 a b iha ihb (w.alloc (.cells #[.iface a.tid a.pay, .iface b.tid b.pay] 246)) ao n cap ns base hn (hW.keep (bel_alloc (Below.refl _ _) _)) (by simp; omega) (by simp only [It.cnt] at hl; omega))
  simp only [It.pay, It.cnt, It.wrf, It.flat]
  rw [It.val_pay a, It.val_pay b]
  generalize a.tid = Ta at *
  generalize a.pay = va at *
  generalize b.tid = Tb at *
  generalize b.pay = vb at *
  clear hW iha ihb hl
  go_enter Tryz.func245, Tryz.ntmps245
  go_wp2_with fail
  refine HP.out.mono ?_
  rintro e w2 ⟨g2, cap2, rfl, hn2, hg2, hat2⟩
  have HN2 := hide hn2
  have HG2 := hide (((grown_of (bel_alloc (Below.refl w.heap.size w) _)).but (Value.slice ao n cap).ownBlock).trans hg2)
  have HAT2 : Hid ((Value.slice ao n cap).ownBlock = some g2 ∨ w.heap.size ≤ g2) := by
    rcases hat2 with h | h
    · exact .inl h
    · exact .inr (by simp at h; omega)
  clear hn2 hg2 hat2
  go_wp2_with fail
  go_ret
  exact ⟨g2, cap2, rfl, HN2.out, HG2.out, HAT2.out⟩
theorem write_all : ∀ x : It, WriteAt x
  | .zero => write_zero
  | .succ n x => write_succ n x (write_all x)
  | .max a b => write_max a b (write_all a) (write_all b)
  | .imax a b => write_imax a b (write_all a) (write_all b)
  | .param s => write_param s
end Go.Proofs.YtbgibiongnhjoaaGreat

/- What the program's levelOfTree and sizedLevel answer. -/
namespace Go.Proofs.YtbgibiongnhjoaaGreat
open Go.ChangeShapes Go.WideShapes Go.ChangeAt Go.RowKit


set_option maxRecDepth 20000 in
set_option maxHeartbeats 1000000 in
theorem levelOfTree_any (x : It) (w : World) (hc : x.cnt ≤ 1000) :
    Calls Tryz.prog 195 #[.iface x.tid x.pay] w fun e w' => ∃ g cap, e = .returned (.agg #[.slice (some ⟨g, 0, none⟩) x.cnt cap]) ∧ NdW w.heap.size w' (.slice (some ⟨g, 0, none⟩) x.cnt cap) (x.flat 0) ∧ Below w.heap.size w w' := by
  have hm := It.write_m x
  have he := It.write_e x
  obtain ⟨W, hW⟩ : ∃ W, W = w.alloc (.cells #[.slice none 0 0] 111) := ⟨_, rfl⟩
  have HB := hide (show Below w.heap.size w W by rw [hW]; exact bel_alloc (Below.refl _ _) _)
  have hsW : W.heap.size = w.heap.size + 1 := by rw [hW]; simp
  have x0 : W.cell? ⟨w.heap.size, 0, none⟩ = some (.slice none 0 0) := by rw [hW]; simp [go_sem]
  have xf : W.frozen? ⟨w.heap.size, 0, none⟩ = false := by rw [hW]; simp [go_sem]
  have HXB := hide (show W.heap[w.heap.size]? = some (.cells #[.slice none 0 0] 111 (0, 0)) by rw [hW]; exact heap_alloc_new w _)
  have HIH := hide (write_all x W none 0 0 [] w.heap.size rfl (ndW_nil _ _) (by omega) (by omega))
  simp only [List.nil_append, Nat.zero_add] at HIH
  generalize x.wrf = f at *
  generalize x.tid = T at *
  generalize x.pay = v at *
  generalize x.flat 0 = fl at *
  generalize x.cnt = y at *
  go_enter Tryz.func195, Tryz.ntmps195
  go_wp2_with fail
  rw [← hW]
  clear hW
  refine HIH.out.mono ?_
  rintro e w2 ⟨g2, cap2, rfl, hn2, hg2, hat2⟩
  have hs := hg2.size
  have x0 := (hg2.cell_far ⟨w.heap.size, 0, none⟩ (by show w.heap.size < _; omega) (by simp [Value.ownBlock])).trans x0
  have xf := (hg2.frozen_far ⟨w.heap.size, 0, none⟩ (by show w.heap.size < _; omega) (by simp [Value.ownBlock])).trans xf
  have HXB2 := hide ((hg2.block w.heap.size (by omega) (by simp [Value.ownBlock])).trans HXB.out)
  have HB2 := hide (HB.out.trans ((Below.refl w.heap.size W).grown hg2 (by omega) (fun q hq => by simp [Value.ownBlock] at hq)))
  have HN2 := hide (hn2.set (l := w.heap.size) (o := 0) (by decide) (by decide) HXB2.out (.slice (some ⟨g2, 0, none⟩) y cap2))
  clear hn2 hg2 hat2 hs
  go_wp2_with fail
  refine bodyPost_ret (v := .agg #[.slice (some ⟨g2, 0, none⟩) y cap2]) (by simp [results, go_sem, x0]) rfl ⟨g2, cap2, rfl, HN2.out, HB2.out.setCell (p := ⟨_, _, _⟩) (Nat.le_refl _) _⟩

/-- An answer that is a level and a code. -/
def LvOut (B : Nat) (w' : World) (e : Ending) (r : Option Tr) (code : Int) : Prop :=
  match r with
  | none => e = .returned (.tuple #[.agg #[.slice none 0 0], .int .i64 code])
  | some t => ∃ g cap, e = .returned (.tuple #[.agg #[.slice (some ⟨g, 0, none⟩) t.cnt cap], .int .i64 0]) ∧ NdW B w' (.slice (some ⟨g, 0, none⟩) t.cnt cap) (t.flat 0)
/-- What a tree is as a level. -/
def sizedR (t : Tr) : Option Tr := if fitsB t then some t else none
theorem fields_le {k : Int} {s : ByteArray} {ks : List Int} (h : fieldsB ⟨k, s, ks⟩ = true) : s.size ≤ maxLen := by
  unfold fieldsB at h
  unfold maxLen
  split at h
  · unfold paramB shortB at h
    simp only [Bool.and_eq_true, decide_eq_true_eq] at h
    omega
  · have h : s.toList.isEmpty = true := h
    rw [empty_of h]; show (0 : Nat) ≤ _; omega
theorem flat_le : ∀ (t : Tr) (o : Nat), t.ok → ∀ nd ∈ t.flat o, nd.s.size ≤ maxLen
  | .leaf _ _, o, h, nd, hn => by simp [Tr.flat] at hn; subst hn; exact fields_le h.2
  | .one _ _ a, o, h, nd, hn => by
    simp only [Tr.flat, List.mem_append, List.mem_singleton] at hn
    rcases hn with hn | hn
    · exact flat_le a o h.2.2 nd hn
    · subst hn; exact fields_le h.2.1
  | .two _ _ a b, o, h, nd, hn => by
    simp only [Tr.flat, List.mem_append, List.mem_singleton] at hn
    rcases hn with (hn | hn) | hn
    · exact flat_le a o h.2.2.1 nd hn
    · exact flat_le b _ h.2.2.2 nd hn
    · subst hn; exact fields_le h.2.1

set_option maxRecDepth 20000 in
set_option maxHeartbeats 2000000 in
theorem sizedLevel_any (t : Tr) (w : World) (hok : t.ok) (hc : t.cnt ≤ 1000000) :
    Calls Tryz.prog 167 #[.iface t.it.tid t.it.pay] w fun e w' => LvOut w.heap.size w' e (sizedR t) 3 ∧ Below w.heap.size w w' := by
  have hm := It.size_m t.it
  have he := It.size_e t.it
  have hcnt := it_cnt t hok
  have HSZ := hide (size_all t.it (by omega))
  have HLT := hide (levelOfTree_any t.it)
  have HFL := hide (it_flat t 0 hok)
  have HLV := hide (lvl_flat t hok)
  have HSM := hide (flat_le t 0 hok)
  have HTL := hide (Tr.flat_len t 0)
  unfold SizeAt at HSZ
  rw [hcnt] at HSZ HLT
  rw [HFL.out] at HLT
  generalize t.it.szf = f at *
  generalize t.it.tid = T at *
  generalize t.it.pay = v at *
  clear hcnt
  obtain ⟨W, hW⟩ : ∃ W, W = w.alloc (.cells #[.slice none 0 0] 111) := ⟨_, rfl⟩
  have HB := hide (show Below w.heap.size w W by rw [hW]; exact bel_alloc (Below.refl _ _) _)
  have hsW : W.heap.size = w.heap.size + 1 := by rw [hW]; simp
  have x0 : W.cell? ⟨w.heap.size, 0, none⟩ = some (.slice none 0 0) := by rw [hW]; simp [go_sem]
  have xf : W.frozen? ⟨w.heap.size, 0, none⟩ = false := by rw [hW]; simp [go_sem]
  have HXB := hide (show W.heap[w.heap.size]? = some (.cells #[.slice none 0 0] 111 (0, 0)) by rw [hW]; exact heap_alloc_new w _)
  go_enter Tryz.func167, Tryz.ntmps167
  go_wp2_with fail
  rw [← hW]
  clear hW
  refine (HSZ.out W).mono ?_
  rintro e w2 ⟨rfl, hb2⟩
  have x0 := keep_cell hb2 x0
  have xf : w2.frozen? ⟨w.heap.size, 0, none⟩ = false := (hb2.frozen (p := ⟨w.heap.size, 0, none⟩) (by show w.heap.size < _; omega)).trans xf
  have HXB2 := hide ((hb2.block w.heap.size (by omega)).trans HXB.out)
  have HB2 := hide (HB.out.trans (hb2.mono (by omega)))
  have hs2 := hb2.size
  clear hb2 HSZ
  by_cases hbig : t.cnt ≤ 64
  · have hle : (t.cnt : Int) ≤ 64 := by omega
    go_wp2_with fail
    refine (HLT.out w2 (by omega)).mono ?_
    rintro e w3 ⟨g3, cap3, rfl, hn3, hb3⟩
    have x0 := keep_cell hb3 x0
    have xf : w3.frozen? ⟨w.heap.size, 0, none⟩ = false := (hb3.frozen (p := ⟨w.heap.size, 0, none⟩) (by show w.heap.size < _; omega)).trans xf
    have HXB3 := hide ((hb3.block w.heap.size (by omega)).trans HXB2.out)
    have HB3 := hide (HB2.out.trans (hb3.mono (by omega)))
    have hs3 := hb3.size
    have HN3 := hide hn3
    have HND := hide (hn3.nodes HTL.out)
    obtain ⟨W4, hW4⟩ : ∃ W4, W4 = w3.alloc (.cells #[.slice (some ⟨g3, 0, none⟩) t.cnt cap3] 111) := ⟨_, rfl⟩
    have HB4 := hide (show Below w3.heap.size w3 W4 by rw [hW4]; exact bel_alloc (Below.refl _ _) _)
    have y0 : W4.cell? ⟨w3.heap.size, 0, none⟩ = some (.slice (some ⟨g3, 0, none⟩) t.cnt cap3) := by rw [hW4]; simp [go_sem]
    have hs4 : w3.heap.size < W4.heap.size := by rw [hW4]; simp
    have hgl : g3 ≠ w.heap.size := by have := (hn3.row_lt g3 rfl).1; omega
    clear hb3 hn3 HLT
    go_wp2_with fail
    rw [← hW4]
    clear hW4
    have x0 := keep_cell HB4.out x0
    have xf : W4.frozen? ⟨w.heap.size, 0, none⟩ = false := (HB4.out.frozen (p := ⟨w.heap.size, 0, none⟩) (by show w.heap.size < _; omega)).trans xf
    have HXB4 := hide ((HB4.out.block w.heap.size (by omega)).trans HXB3.out)
    refine (implLevelOk_any _ (t.flat 0) W4 (HND.out.keep HB4.out) HSM.out).mono ?_
    rintro e w5 ⟨rfl, hb5⟩
    rw [HLV.out]
    have x0 := keep_cell hb5 x0
    have xf : w5.frozen? ⟨w.heap.size, 0, none⟩ = false := (hb5.frozen (p := ⟨w.heap.size, 0, none⟩) (by show w.heap.size < _; omega)).trans xf
    have HXB5 := hide ((hb5.block w.heap.size (by omega)).trans HXB4.out)
    have y0 := keep_cell hb5 y0
    have HB5 := hide ((HB3.out.trans (HB4.out.mono (by omega))).trans (hb5.mono (by omega)))
    have HN5 := hide ((HN3.out.keep HB4.out).keep hb5)
    have hne : ¬ w3.heap.size = w.heap.size := by omega
    clear hb5
    cases hfit : fitsB t
    · have HF : Hid (sizedR t = none) := by show _ = _; unfold sizedR; rw [hfit]; rfl
      go_wp2_with fail
      refine bodyPost_ret (v := .tuple #[.agg #[.slice none 0 0], .int .i64 3]) (by simp [results, go_sem, x0]) rfl ⟨by rw [HF.out]; exact rfl, HB5.out.setCell (p := ⟨_, _, _⟩) (Nat.le_refl _) _⟩
    · have HF : Hid (sizedR t = some t) := by show _ = _; unfold sizedR; rw [hfit]; rfl
      have HN6 := hide (HN5.out.set (l := w.heap.size) (o := 0) (by decide) (by decide) HXB5.out (.slice (some ⟨g3, 0, none⟩) t.cnt cap3))
      have hbase : w.heap.size ≤ w2.heap.size := by omega
      go_wp2_with fail
      refine bodyPost_ret (v := .tuple #[.agg #[.slice (some ⟨g3, 0, none⟩) t.cnt cap3], .int .i64 0]) (by simp [results, go_sem, x0]) rfl ⟨?_, HB5.out.setCell (p := ⟨_, _, _⟩) (Nat.le_refl _) _⟩
      rw [HF.out]
      exact ⟨g3, cap3, rfl, HN6.out.mono hbase⟩
  · have hle : ¬ (t.cnt : Int) ≤ 64 := by omega
    have HF : Hid (sizedR t = none) := by
      show _ = _
      unfold sizedR fitsB
      rw [if_neg]
      simp; omega
    go_wp2_with fail
    refine bodyPost_ret (v := .tuple #[.agg #[.slice none 0 0], .int .i64 3]) (by simp [results, go_sem, x0]) rfl ⟨by rw [HF.out]; exact rfl, HB2.out.setCell (p := ⟨_, _, _⟩) (Nat.le_refl _) _⟩
end Go.Proofs.YtbgibiongnhjoaaGreat

/- How the kinds of the program's trees are told from each other. -/
namespace Go.Proofs.YtbgibiongnhjoaaGreat
open Go.ChangeShapes Go.WideShapes Go.ChangeAt Go.RowKit


theorem Tryz.as152_146 (v : Value) (w : World) : (Instr.typeAssert (.iface 249 v) 217 245 true).run Tryz.prog w = .ok (.tuple #[.agg #[.nilIface, .nilIface], .bool false]) w := by kernel_rfl
theorem Tryz.as146_146 (v : Value) (w : World) : (Instr.typeAssert (.iface 245 v) 217 245 true).run Tryz.prog w = .ok (.tuple #[v, .bool true]) w := by kernel_rfl
theorem Tryz.as147_146 (v : Value) (w : World) : (Instr.typeAssert (.iface 246 v) 217 245 true).run Tryz.prog w = .ok (.tuple #[.agg #[.nilIface, .nilIface], .bool false]) w := by kernel_rfl
theorem Tryz.as149_146 (v : Value) (w : World) : (Instr.typeAssert (.iface 221 v) 217 245 true).run Tryz.prog w = .ok (.tuple #[.agg #[.nilIface, .nilIface], .bool false]) w := by kernel_rfl
theorem Tryz.as152_147 (v : Value) (w : World) : (Instr.typeAssert (.iface 249 v) 217 246 true).run Tryz.prog w = .ok (.tuple #[.agg #[.nilIface, .nilIface], .bool false]) w := by kernel_rfl
theorem Tryz.as147_147 (v : Value) (w : World) : (Instr.typeAssert (.iface 246 v) 217 246 true).run Tryz.prog w = .ok (.tuple #[v, .bool true]) w := by kernel_rfl
theorem Tryz.as149_147 (v : Value) (w : World) : (Instr.typeAssert (.iface 221 v) 217 246 true).run Tryz.prog w = .ok (.tuple #[.agg #[.nilIface, .nilIface], .bool false]) w := by kernel_rfl
theorem Tryz.as152_149 (v : Value) (w : World) : (Instr.typeAssert (.iface 249 v) 217 221 true).run Tryz.prog w = .ok (.tuple #[.agg #[.string ⟨#[]⟩], .bool false]) w := by kernel_rfl
theorem Tryz.as149_149 (v : Value) (w : World) : (Instr.typeAssert (.iface 221 v) 217 221 true).run Tryz.prog w = .ok (.tuple #[v, .bool true]) w := by kernel_rfl

/-- O is kept where the world only grows. -/
def Grows (O : World → Prop) : Prop := ∀ w w', O w → Below w.heap.size w w' → O w'
end Go.Proofs.YtbgibiongnhjoaaGreat
