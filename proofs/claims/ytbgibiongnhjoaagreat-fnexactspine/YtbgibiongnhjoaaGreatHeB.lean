/- What heldLNodeS and heldLevel answer at marked nodes: the number behind the last mark. -/
import Derived.Test.YtbgibiongnhjoaaGreatTMem
import Derived.Test.YtbgibiongnhjoaaGreatHeA
namespace Go.Proofs.YtbgibiongnhjoaaGreat
open Go.ChangeShapes Go.WideShapes Go.ChangeAt Go.RowKit

theorem markN_get (ns : List Nd) : ∀ (k i : Nat) (h : i < ns.length), (markN k ns)[i]? = some ⟨((k + costN (ns.take i) : Nat) : Int), mt (k + costN (ns.take i) + 1), nums (k + costN (ns.take i) + 2) ns[i].kids.length⟩ := by
  induction ns with
  | nil => intro k i h; simp at h
  | cons x a ih =>
    intro k i h
    cases i with
    | zero => simp [markN, costN]
    | succ i =>
      have := ih (k + 2 + x.kids.length) i (by simpa using h)
      simp only [markN, List.getElem?_cons_succ, List.take_succ_cons, costN, List.getElem_cons_succ]
      rw [this, show k + 2 + x.kids.length + costN (List.take i a) = k + (2 + x.kids.length + costN (List.take i a)) by omega]

set_option maxRecDepth 20000 in
set_option maxHeartbeats 4000000 in
theorem heldLNodeS_any (v : Value) (ns : List Nd) (k0 : Nat) (w : World) (h : NodesAt w v (markN k0 ns)) (hkl : ∀ nd ∈ ns, nd.kids.length ≤ 1048576) (hk1 : 1 ≤ k0) (hk : k0 + costN ns ≤ 50000000) :
    Calls Tryz.prog 153 #[v, .int .i64 k0] w fun e w' => e = .returned (.int .i64 ((k0 + costN ns : Nat) : Int)) ∧ Below w.heap.size w w' := by
  have HKL := hide hkl
  have hml := markN_len ns k0
  obtain ⟨a, cap, rfl, h1, h2, hc⟩ := h
  have HC := hide hc
  rw [hml] at h1 ⊢
  unfold maxLen at h2
  have HML := hide hml
  clear hc hkl hml
  go_enter Tryz.func153, Tryz.ntmps153
  go_wp2_with fail
  go_loopw [1, 5] (fun m i wr => ∃ (j K : Nat), j ≤ ns.length ∧ i = .int .i64 j ∧ m = .int .i64 K ∧ Hid (K = k0 + costN (ns.take j)) ∧ Hid (Below w.heap.size w wr)) (fun _ i _ => ns.length - (intOf i).toNat)
  case atStart => exact ⟨0, k0, by omega, rfl, rfl, by show _ = _; simp [costN], Below.refl _ _⟩
  case round =>
    obtain ⟨j, K, hj, rfl, rfl, HK, HB⟩ := hrel
    have hK1 : 1 ≤ K := by have := HK.out; omega
    have hK2 : K ≤ 50000000 := by have := HK.out; have := costN_le ns j; omega
    by_cases hlt : j < ns.length
    · have hlt' : (j : Int) < ns.length := by omega
      obtain ⟨b, off, rfl, hcell⟩ := HC.out (by have := HML.out; omega)
      have hjm : j < (markN k0 ns).length := by have := HML.out; omega
      obtain ⟨c1, c2, kv, c3, hkv⟩ := hcell j hjm
      have hget : (markN k0 ns)[j] = ⟨(K : Int), mt (K + 1), nums (K + 2) ns[j].kids.length⟩ := by
        have := markN_get ns k0 j hlt
        rw [List.getElem?_eq_getElem hjm] at this
        rw [HK.out]
        exact Option.some.inj this
      rw [hget] at c1 c2 hkv
      have c1 := keep_cell HB.out c1
      have c2 := keep_cell HB.out c2
      have c3 := keep_cell HB.out c3
      have hkl := HKL.out ns[j] (List.getElem_mem hlt)
      have HKV := hide (hkv.keep HB.out)
      obtain ⟨ka, kc, hkf⟩ : ∃ ka kc, kv = .slice ka ns[j].kids.length kc := by
        obtain ⟨ka, kc, hkf, _⟩ := hkv
        rw [nums_len] at hkf
        exact ⟨ka, kc, hkf⟩
      subst hkf
      have HMT := hide (fun W => markText_any (K + 1) W (by omega) (by omega))
      have HK4 : Hid (K + 2 + ns[j].kids.length = k0 + costN (ns.take (j + 1))) := by show _ = _; rw [costN_snoc ns j hlt]; have := HK.out; omega
      have hself : ((K : Int) != (K : Int)) = false := by simp
      have hself2 : ((mt (K + 1)).toList != (mt (K + 1)).toList) = false := by simp
      clear hcell hget hjm hkv
      generalize ns[j].kids.length = kl at *
      generalize mt (K + 1) = ms at *
      rw [show ((K + 1 : Nat) : Int) = (K : Int) + 1 by omega] at HMT
      go_wp2_with fail
      go_region_held3 (fun w' => w'.cell? ⟨b, off + j * 3 + 1, none⟩ = some (.string ms))
        (first
          | go_keep
          | exact keep_cell hb1 (by assumption)
          | fail)
        (first
          | (go_at_call 75; refine (HMT.out _).mono ?_; rintro e w1 ⟨rfl, hb1⟩)
          | fail)
      all_goals
        have hbb := (show Below wr.heap.size wr wr.drew from ⟨rfl, rfl, rfl, Nat.le_refl _, fun _ _ => rfl⟩).trans (hb1.mono (Nat.le_refl _))
        have HHI := hide (heldIntS_any _ kl (K + 2) w1 (HKV.out.keep hbb) hkl (by omega))
        have c3' := keep_cell hbb c3
        have HB1 := hide (bel_trans HB.out hbb)
        rw [show ((K + 2 : Nat) : Int) = (K : Int) + 1 + 1 by omega] at HHI
        clear hb1 hbb
        go_wp2_with fail
        refine HHI.out.mono ?_
        rintro e w2 ⟨rfl, hw2⟩
        subst hw2
        go_wp2_with fail
        go_roundw
        case rel => exact ⟨j + 1, K + 2 + kl, by omega, by go_num, by go_num, HK4, HB1⟩
        case measure => simp [intOf]; omega
    · have hjn : j = ns.length := by omega
      subst hjn
      have HR : Hid (K = k0 + costN ns) := by show _ = _; have := HK.out; rwa [List.take_length] at this
      go_wp2_with fail
      go_ret
      exact ⟨ret_int (by rw [HR.out]), HB.out⟩
end Go.Proofs.YtbgibiongnhjoaaGreat

/- What heldLevelS and heldTerm answer at marked terms. -/
namespace Go.Proofs.YtbgibiongnhjoaaGreat
open Go.ChangeShapes Go.WideShapes Go.ChangeAt Go.RowKit

set_option maxRecDepth 20000 in
set_option maxHeartbeats 4000000 in
theorem heldLevelS_any (v : Value) (ls : List (List Nd)) (k0 : Nat) (w : World) (h : LevsAt w v (markLs k0 ls)) (hkl : ∀ l ∈ ls, l.length ≤ 1048576 ∧ ∀ nd ∈ l, nd.kids.length ≤ 1048576) (hk1 : 1 ≤ k0) (hk : k0 + costLs ls ≤ 50000000) :
    Calls Tryz.prog 106 #[v, .int .i64 k0] w fun e w' => e = .returned (.int .i64 ((k0 + costLs ls : Nat) : Int)) ∧ Below w.heap.size w w' := by
  have HKL := hide hkl
  have hml := markLs_len ls k0
  obtain ⟨a, cap, rfl, h1, h2, hc⟩ := h
  have HC := hide hc
  rw [hml] at h1 ⊢
  unfold maxLen at h2
  have HML := hide hml
  clear hc hkl hml
  go_enter Tryz.func106, Tryz.ntmps106
  go_wp2_with fail
  go_loopw [1, 5] (fun m i wr => ∃ (j K : Nat), j ≤ ls.length ∧ i = .int .i64 j ∧ m = .int .i64 K ∧ Hid (K = k0 + costLs (ls.take j)) ∧ Hid (Below w.heap.size w wr)) (fun _ i _ => ls.length - (intOf i).toNat)
  case atStart => exact ⟨0, k0, by omega, rfl, rfl, by show _ = _; simp [costLs], Below.refl _ _⟩
  case round =>
    obtain ⟨j, K, hj, rfl, rfl, HK, HB⟩ := hrel
    have hK1 : 1 ≤ K := by have := HK.out; omega
    have hK2 : K ≤ 50000000 := by have := HK.out; have := costLs_le ls j; omega
    by_cases hlt : j < ls.length
    · have hlt' : (j : Int) < ls.length := by omega
      obtain ⟨b, off, rfl, hcell⟩ := HC.out (by have := HML.out; omega)
      have hjm : j < (markLs k0 ls).length := by have := HML.out; omega
      obtain ⟨u, c1, hu⟩ := hcell j hjm
      have hget : (markLs k0 ls)[j] = markN K ls[j] := by
        have := markLs_get ls k0 j hlt
        rw [List.getElem?_eq_getElem hjm] at this
        rw [HK.out]
        exact Option.some.inj this
      rw [hget] at hu
      have c1 := keep_cell HB.out c1
      obtain ⟨hl1, hl2⟩ := HKL.out ls[j] (List.getElem_mem hlt)
      have HCST : Hid (K + costN ls[j] = k0 + costLs (ls.take (j + 1))) := by show _ = _; rw [costLs_snoc ls j hlt]; have := HK.out; omega
      have HCALL := hide (heldLNodeS_any u ls[j] K wr (hu.keep HB.out) hl2 hK1 (by have := HCST.out; have := costLs_le ls (j + 1); omega))
      obtain ⟨ua, uc, hul, rfl⟩ : ∃ ua uc n, u = .slice ua n uc := by obtain ⟨a, cap, h, _⟩ := hu; exact ⟨_, _, _, h⟩
      clear hcell hget hjm hu hl2
      generalize costN ls[j] = cj at *
      have hneg : decide (((K + cj : Nat) : Int) < 0) = false := by simp; omega
      go_wp2_with fail
      refine HCALL.out.mono ?_
      rintro e w2 ⟨rfl, hb2⟩
      have HB2 := hide (bel_trans HB.out hb2)
      clear hb2 HCALL
      go_wp2_with fail
      go_roundw
      case rel => exact ⟨j + 1, K + cj, by omega, by go_num, rfl, HCST, HB2⟩
      case measure => simp [intOf]; omega
    · have hjn : j = ls.length := by omega
      subst hjn
      have HR : Hid (K = k0 + costLs ls) := by show _ = _; have := HK.out; rwa [List.take_length] at this
      go_wp2_with fail
      go_ret
      exact ⟨ret_int (by rw [HR.out]), HB.out⟩

set_option maxRecDepth 20000 in
set_option maxHeartbeats 8000000 in
theorem heldNodeS_any (v : Value) (ts : List Td) (k0 : Nat) (w : World) (h : TNodesAt w v (markT k0 ts)) (hsm : ∀ td ∈ ts, TSmall td) (hk1 : 1 ≤ k0) (hk : k0 + costT ts ≤ 50000000) :
    Calls Tryz.prog 58 #[v, .int .i64 k0] w fun e w' => e = .returned (.int .i64 ((k0 + costT ts : Nat) : Int)) ∧ Below w.heap.size w w' := by
  have HSM := hide hsm
  have hml := markT_len ts k0
  obtain ⟨a, cap, rfl, h1, h2, hc⟩ := h
  have HC := hide hc
  rw [hml] at h1 ⊢
  unfold maxLen at h2
  have HML := hide hml
  clear hc hsm hml
  go_enter Tryz.func58, Tryz.ntmps58
  go_wp2_with fail
  go_loopw [1, 5] (fun m i wr => ∃ (j K : Nat), j ≤ ts.length ∧ i = .int .i64 j ∧ m = .int .i64 K ∧ Hid (K = k0 + costT (ts.take j)) ∧ Hid (Below w.heap.size w wr)) (fun _ i _ => ts.length - (intOf i).toNat)
  case atStart => exact ⟨0, k0, by omega, rfl, rfl, by show _ = _; simp [costT], Below.refl _ _⟩
  case round =>
    obtain ⟨j, K, hj, rfl, rfl, HK, HB⟩ := hrel
    have hK1 : 1 ≤ K := by have := HK.out; omega
    have hK2 : K ≤ 50000000 := by have := HK.out; have := costT_le ts j; omega
    by_cases hlt : j < ts.length
    · have hlt' : (j : Int) < ts.length := by omega
      obtain ⟨b, off, rfl, hcell⟩ := HC.out (by have := HML.out; omega)
      have hjm : j < (markT k0 ts).length := by have := HML.out; omega
      have hcj := hcell j hjm
      have hget : (markT k0 ts)[j] = markTd K ts[j] := by
        have := markT_get ts k0 j hlt
        rw [List.getElem?_eq_getElem hjm] at this
        rw [HK.out]
        exact Option.some.inj this
      rw [hget] at hcj
      obtain ⟨c0, c1, c2, c3, lv, c4, hlv, kv, c5, hkv⟩ := hcj
      have c0 : wr.cell? ⟨b, off + j * 6, none⟩ = some (.int .i64 (K : Int)) := keep_cell HB.out c0
      have c1 : wr.cell? ⟨b, off + j * 6 + 1, none⟩ = some (.int .i64 ((K : Int) + 1)) := keep_cell HB.out c1
      have c2 : wr.cell? ⟨b, off + j * 6 + 2, none⟩ = some (.int .i64 ((K : Int) + 1 + 1)) := keep_cell HB.out c2
      have c3 : wr.cell? ⟨b, off + j * 6 + 3, none⟩ = some (.string (mt (K + 3))) := keep_cell HB.out c3
      have c4 := keep_cell HB.out c4
      have c5 := keep_cell HB.out c5
      have HLV : Hid (LevsAt wr lv (markLs (K + 4) ts[j].lv)) := hlv.keep HB.out
      have HKV : Hid (IntsAt wr kv (nums (K + 4 + costLs ts[j].lv) ts[j].kids.length)) := hkv.keep HB.out
      obtain ⟨la, lc, ln, rfl⟩ : ∃ la lc n, lv = .slice la n lc := by obtain ⟨a, cap, h, _⟩ := hlv; exact ⟨_, _, _, h⟩
      obtain ⟨ka, kc, kn, rfl⟩ : ∃ ka kc n, kv = .slice ka n kc := by obtain ⟨a, cap, h, _⟩ := hkv; exact ⟨_, _, _, h⟩
      obtain ⟨q1, q2, q3⟩ := HSM.out ts[j] (List.getElem_mem hlt)
      have HQ2 := hide q2
      have HCST : Hid (K + 4 + costLs ts[j].lv + ts[j].kids.length = k0 + costT (ts.take (j + 1))) := by show _ = _; rw [costT_snoc ts j hlt]; have := HK.out; omega
      have hKb : K + 4 + costLs ts[j].lv + ts[j].kids.length ≤ 50000000 := by have := HCST.out; have := costT_le ts (j + 1); omega
      have HMT := hide (fun W => markText_any (K + 3) W (by omega) (by omega))
      have HHL := hide (fun (W : World) (hW : Below wr.heap.size wr W) => heldLevelS_any (.slice la ln lc) ts[j].lv (K + 4) W (HLV.out.keep hW) HQ2.out (by omega) (by omega))
      have HHI := hide (fun (W : World) (hW : Below wr.heap.size wr W) => heldIntS_any (.slice ka kn kc) ts[j].kids.length (K + 4 + costLs ts[j].lv) W (HKV.out.keep hW) q3 (by omega))
      have hs0 : ((K : Int) != (K : Int)) = false := by simp
      have hs1 : ((K : Int) + 1 != (K : Int) + 1) = false := by simp
      have hs2 : ((K : Int) + 1 + 1 != (K : Int) + 1 + 1) = false := by simp
      have hself2 : ((mt (K + 3)).toList != (mt (K + 3)).toList) = false := by simp
      clear hcell hget hjm hlv hkv q2 HLV HKV
      generalize mt (K + 3) = ms at *
      obtain ⟨L, hL⟩ : ∃ L, L = costLs ts[j].lv := ⟨_, rfl⟩
      rw [← hL] at HHL HHI HCST hKb
      clear hL
      generalize ts[j].kids.length = kl at *
      rw [show ((K + 3 : Nat) : Int) = (K : Int) + 1 + 1 + 1 by omega] at HMT
      have hn1 : decide (((K + 4 + L : Nat) : Int) < 0) = false := by simp; omega
      have hn2 : decide (((K + 4 + L + kl : Nat) : Int) < 0) = false := by simp; omega
      go_wp2_with fail
      go_region_held3 (fun w' => w'.cell? ⟨b, off + j * 6 + 3, none⟩ = some (.string ms))
        (first
          | go_keep
          | exact keep_cell hb1 (by assumption)
          | fail)
        (first
          | (go_at_call 75; refine (HMT.out _).mono ?_; rintro e w1 ⟨rfl, hb1⟩)
          | fail)
      all_goals
        have hbb : Below wr.heap.size wr w1 := (show Below wr.heap.size wr wr.drew from ⟨rfl, rfl, rfl, Nat.le_refl _, fun _ _ => rfl⟩).trans (hb1.mono (Nat.le_refl _))
        have HL1 := hide (HHL.out w1 hbb)
        have HI1 := hide (HHI.out w1 hbb)
        have c4' := keep_cell hbb c4
        have c5' := keep_cell hbb c5
        have hl4 := lt_cell c4'
        have HBB := hide hbb
        have HB1 := hide (bel_trans HB.out hbb)
        rw [show ((K + 4 : Nat) : Int) = (K : Int) + 1 + 1 + 1 + 1 by omega] at HL1
        clear hb1 hbb c0 c1 c2 c3 c4 c5
        go_wp2_with fail
        refine HL1.out.mono ?_
        rintro e w2 ⟨rfl, hb2⟩
        have HI2 := hide (HHI.out w2 (bel_trans HBB.out hb2))
        have c5'' := keep_cell hb2 c5'
        have hl5 := lt_cell c5''
        have HB2 := hide (bel_trans HB1.out hb2)
        clear hb2 HL1 HI1 c4' c5'
        go_wp2_with fail
        refine HI2.out.mono ?_
        rintro e w3 ⟨rfl, hw3⟩
        subst hw3
        go_wp2_with fail
        go_roundw
        case rel => exact ⟨j + 1, K + 4 + L + kl, by omega, by go_num, by go_num, HCST, HB2⟩
        case measure => simp [intOf]; omega
    · have hjn : j = ts.length := by omega
      subst hjn
      have HR : Hid (K = k0 + costT ts) := by show _ = _; have := HK.out; rwa [List.take_length] at this
      go_wp2_with fail
      go_ret
      exact ⟨ret_int (by rw [HR.out]), HB.out⟩
set_option maxHeartbeats 1000000 in
theorem heldTerm_any (v : Value) (ts : List Td) (k0 : Nat) (w : World) (h : TNodesAt w v (markT k0 ts)) (hsm : ∀ td ∈ ts, TSmall td) (hk1 : 1 ≤ k0) (hk : k0 + costT ts ≤ 50000000) :
    Calls Tryz.prog 20 #[.agg #[v], .int .i64 k0] w fun e w' => e = .returned (.int .i64 ((k0 + costT ts : Nat) : Int)) ∧ Below w.heap.size w w' := by
  have HC := hide (heldNodeS_any v ts k0 (w.alloc (.cells #[v] 28)) (h.keep (bel_alloc (Below.refl _ _) _)) hsm hk1 hk)
  obtain ⟨a, cap, rfl, _⟩ := h
  have HB := hide (bel_alloc (Below.refl w.heap.size w) (.cells #[.slice a (markT k0 ts).length cap] 28))
  obtain ⟨M, hM⟩ : ∃ M, M = k0 + costT ts := ⟨_, rfl⟩
  rw [← hM] at HC ⊢
  have hneg : decide ((M : Int) < 0) = false := by simp
  clear hsm hM
  go_enter Tryz.func20, Tryz.ntmps20
  go_wp2_with fail
  refine HC.out.mono ?_
  rintro e w2 ⟨rfl, hb2⟩
  have HB2 := hide (bel_trans HB.out hb2)
  clear hb2
  go_wp2_with fail
  go_ret
  exact ⟨rfl, HB2.out⟩
end Go.Proofs.YtbgibiongnhjoaaGreat
