/- What heldLNodeS and heldLevel answer at marked nodes: the number behind the last mark. -/
import Derived.Test.YtjkkojefpecbfaaGreatEq
import Derived.Test.YtjkkojefpecbfaaGreatHeA
import Derived.Test.YtjkkojefpecbfaaGreatSpF
namespace Go.Proofs.YtjkkojefpecbfaaGreat
open Go.ChangeShapes Go.WideShapes Go.ChangeAt Go.RowKit

theorem markN_get (ns : List Nd) : ∀ (k i : Nat) (h : i < ns.length), (markN k ns)[i]? = some ⟨((k + costN (ns.take i) : Nat) : Int), mt (k + costN (ns.take i) + 1), nums (k + costN (ns.take i) + 2) ns[i].kids.length⟩ := by
  induction ns with
  | nil => intro k i h; simp at h
  | cons x a ih =>
    intro k i h
    cases i with
    | zero => simp [markN, costN]
    | succ i =>
      have := ih (k + 2 + x.kids.length) i (by simpa using h)
      simp only [markN, List.getElem?_cons_succ, List.take_succ_cons, costN, List.getElem_cons_succ]
      rw [this, show k + 2 + x.kids.length + costN (List.take i a) = k + (2 + x.kids.length + costN (List.take i a)) by omega]

set_option maxRecDepth 20000 in
set_option maxHeartbeats 4000000 in
theorem heldLNodeS_any (v : Value) (ns : List Nd) (k0 : Nat) (w : World) (h : NodesAt w v (markN k0 ns)) (hkl : ∀ nd ∈ ns, nd.kids.length ≤ 1048576) (hk1 : 1 ≤ k0) (hk : k0 + costN ns ≤ 50000000) :
    Calls Tryz.prog 153 #[v, .int .i64 k0] w fun e w' => e = .returned (.int .i64 ((k0 + costN ns : Nat) : Int)) ∧ Below w.heap.size w w' := by
  have HKL := hide hkl
  have hml := markN_len ns k0
  obtain ⟨a, cap, rfl, h1, h2, hc⟩ := h
  have HC := hide hc
  rw [hml] at h1 ⊢
  unfold maxLen at h2
  have HML := hide hml
  clear hc hkl hml
  go_enter Tryz.func153, Tryz.ntmps153
  go_wp2_with fail
  go_loopw [1, 5] (fun m i wr => ∃ (j K : Nat), j ≤ ns.length ∧ i = .int .i64 j ∧ m = .int .i64 K ∧ Hid (K = k0 + costN (ns.take j)) ∧ Hid (Below w.heap.size w wr)) (fun _ i _ => ns.length - (intOf i).toNat)
  case atStart => exact ⟨0, k0, by omega, rfl, rfl, by show _ = _; simp [costN], Below.refl _ _⟩
  case round =>
    obtain ⟨j, K, hj, rfl, rfl, HK, HB⟩ := hrel
    have hK1 : 1 ≤ K := by have := HK.out; omega
    have hK2 : K ≤ 50000000 := by have := HK.out; have := costN_le ns j; omega
    by_cases hlt : j < ns.length
    · have hlt' : (j : Int) < ns.length := by omega
      obtain ⟨b, off, rfl, hcell⟩ := HC.out (by have := HML.out; omega)
      have hjm : j < (markN k0 ns).length := by have := HML.out; omega
      obtain ⟨c1, c2, kv, c3, hkv⟩ := hcell j hjm
      have hget : (markN k0 ns)[j] = ⟨(K : Int), mt (K + 1), nums (K + 2) ns[j].kids.length⟩ := by
        have := markN_get ns k0 j hlt
        rw [List.getElem?_eq_getElem hjm] at this
        rw [HK.out]
        exact Option.some.inj this
      rw [hget] at c1 c2 hkv
      have c1 := keep_cell HB.out c1
      have c2 := keep_cell HB.out c2
      have c3 := keep_cell HB.out c3
      have hkl := HKL.out ns[j] (List.getElem_mem hlt)
      have HKV := hide (hkv.keep HB.out)
      obtain ⟨ka, kc, hkf⟩ : ∃ ka kc, kv = .slice ka ns[j].kids.length kc := by
        obtain ⟨ka, kc, hkf, _⟩ := hkv
        rw [nums_len] at hkf
        exact ⟨ka, kc, hkf⟩
      subst hkf
      have HMT := hide (fun W => markText_any (K + 1) W (by omega) (by omega))
      have HK4 : Hid (K + 2 + ns[j].kids.length = k0 + costN (ns.take (j + 1))) := by show _ = _; rw [costN_snoc ns j hlt]; have := HK.out; omega
      have hself : ((K : Int) != (K : Int)) = false := by simp
      have hself2 : ((mt (K + 1)).toList != (mt (K + 1)).toList) = false := by simp
      clear hcell hget hjm hkv
      generalize ns[j].kids.length = kl at *
      generalize mt (K + 1) = ms at *
      rw [show ((K + 1 : Nat) : Int) = (K : Int) + 1 by omega] at HMT
      go_wp2_with fail
      go_region_held3 (fun w' => w'.cell? ⟨b, off + j * 3 + 1, none⟩ = some (.string ms))
        (first
          | go_keep
          | exact keep_cell hb1 (by assumption)
          | fail)
        (first
          | (go_at_call 75; refine (HMT.out _).mono ?_; rintro e w1 ⟨rfl, hb1⟩)
          | fail)
      all_goals
        have hbb := (show Below wr.heap.size wr wr.drew from ⟨rfl, rfl, rfl, Nat.le_refl _, fun _ _ => rfl⟩).trans (hb1.mono (Nat.le_refl _))
        have HHI := hide (heldIntS_any _ kl (K + 2) w1 (HKV.out.keep hbb) hkl (by omega))
        have c3' := keep_cell hbb c3
        have HB1 := hide (bel_trans HB.out hbb)
        rw [show ((K + 2 : Nat) : Int) = (K : Int) + 1 + 1 by omega] at HHI
        clear hb1 hbb
        go_wp2_with fail
        refine HHI.out.mono ?_
        rintro e w2 ⟨rfl, hw2⟩
        subst hw2
        go_wp2_with fail
        go_roundw
        case rel => exact ⟨j + 1, K + 2 + kl, by omega, by go_num, by go_num, HK4, HB1⟩
        case measure => simp [intOf]; omega
    · have hjn : j = ns.length := by omega
      subst hjn
      have HR : Hid (K = k0 + costN ns) := by show _ = _; have := HK.out; rwa [List.take_length] at this
      go_wp2_with fail
      go_ret
      exact ⟨ret_int (by rw [HR.out]), HB.out⟩
end Go.Proofs.YtjkkojefpecbfaaGreat

/- What heldLevelS and heldTerm answer at marked terms. -/
namespace Go.Proofs.YtjkkojefpecbfaaGreat
open Go.ChangeShapes Go.WideShapes Go.ChangeAt Go.RowKit

set_option maxRecDepth 20000 in
set_option maxHeartbeats 4000000 in
theorem heldLevelS_any (v : Value) (ls : List (List Nd)) (k0 : Nat) (w : World) (h : LevsAt w v (markLs k0 ls)) (hkl : ∀ l ∈ ls, l.length ≤ 1048576 ∧ ∀ nd ∈ l, nd.kids.length ≤ 1048576) (hk1 : 1 ≤ k0) (hk : k0 + costLs ls ≤ 50000000) :
    Calls Tryz.prog 106 #[v, .int .i64 k0] w fun e w' => e = .returned (.int .i64 ((k0 + costLs ls : Nat) : Int)) ∧ Below w.heap.size w w' := by
  have HKL := hide hkl
  have hml := markLs_len ls k0
  obtain ⟨a, cap, rfl, h1, h2, hc⟩ := h
  have HC := hide hc
  rw [hml] at h1 ⊢
  unfold maxLen at h2
  have HML := hide hml
  clear hc hkl hml
  go_enter Tryz.func106, Tryz.ntmps106
  go_wp2_with fail
  go_loopw [1, 5] (fun m i wr => ∃ (j K : Nat), j ≤ ls.length ∧ i = .int .i64 j ∧ m = .int .i64 K ∧ Hid (K = k0 + costLs (ls.take j)) ∧ Hid (Below w.heap.size w wr)) (fun _ i _ => ls.length - (intOf i).toNat)
  case atStart => exact ⟨0, k0, by omega, rfl, rfl, by show _ = _; simp [costLs], Below.refl _ _⟩
  case round =>
    obtain ⟨j, K, hj, rfl, rfl, HK, HB⟩ := hrel
    have hK1 : 1 ≤ K := by have := HK.out; omega
    have hK2 : K ≤ 50000000 := by have := HK.out; have := costLs_le ls j; omega
    by_cases hlt : j < ls.length
    · have hlt' : (j : Int) < ls.length := by omega
      obtain ⟨b, off, rfl, hcell⟩ := HC.out (by have := HML.out; omega)
      have hjm : j < (markLs k0 ls).length := by have := HML.out; omega
      obtain ⟨u, c1, hu⟩ := hcell j hjm
      have hget : (markLs k0 ls)[j] = markN K ls[j] := by
        have := markLs_get ls k0 j hlt
        rw [List.getElem?_eq_getElem hjm] at this
        rw [HK.out]
        exact Option.some.inj this
      rw [hget] at hu
      have c1 := keep_cell HB.out c1
      obtain ⟨hl1, hl2⟩ := HKL.out ls[j] (List.getElem_mem hlt)
      have HCST : Hid (K + costN ls[j] = k0 + costLs (ls.take (j + 1))) := by show _ = _; rw [costLs_snoc ls j hlt]; have := HK.out; omega
      have HCALL := hide (heldLNodeS_any u ls[j] K wr (hu.keep HB.out) hl2 hK1 (by have := HCST.out; have := costLs_le ls (j + 1); omega))
      obtain ⟨ua, uc, hul, rfl⟩ : ∃ ua uc n, u = .slice ua n uc := by obtain ⟨a, cap, h, _⟩ := hu; exact ⟨_, _, _, h⟩
      clear hcell hget hjm hu hl2
      generalize costN ls[j] = cj at *
      have hneg : decide (((K + cj : Nat) : Int) < 0) = false := by simp; omega
      go_wp2_with fail
      refine HCALL.out.mono ?_
      rintro e w2 ⟨rfl, hb2⟩
      have HB2 := hide (bel_trans HB.out hb2)
      clear hb2 HCALL
      go_wp2_with fail
      go_roundw
      case rel => exact ⟨j + 1, K + cj, by omega, by go_num, rfl, HCST, HB2⟩
      case measure => simp [intOf]; omega
    · have hjn : j = ls.length := by omega
      subst hjn
      have HR : Hid (K = k0 + costLs ls) := by show _ = _; have := HK.out; rwa [List.take_length] at this
      go_wp2_with fail
      go_ret
      exact ⟨ret_int (by rw [HR.out]), HB.out⟩

set_option maxRecDepth 20000 in
set_option maxHeartbeats 8000000 in
theorem heldNodeS_any (v : Value) (ts : List Td) (k0 : Nat) (w : World) (h : TNodesAt w v (markT k0 ts)) (hsm : ∀ td ∈ ts, TSmall td) (hk1 : 1 ≤ k0) (hk : k0 + costT ts ≤ 50000000) :
    Calls Tryz.prog 58 #[v, .int .i64 k0] w fun e w' => e = .returned (.int .i64 ((k0 + costT ts : Nat) : Int)) ∧ Below w.heap.size w w' := by
  have HSM := hide hsm
  have hml := markT_len ts k0
  obtain ⟨a, cap, rfl, h1, h2, hc⟩ := h
  have HC := hide hc
  rw [hml] at h1 ⊢
  unfold maxLen at h2
  have HML := hide hml
  clear hc hsm hml
  go_enter Tryz.func58, Tryz.ntmps58
  go_wp2_with fail
  go_loopw [1, 5] (fun m i wr => ∃ (j K : Nat), j ≤ ts.length ∧ i = .int .i64 j ∧ m = .int .i64 K ∧ Hid (K = k0 + costT (ts.take j)) ∧ Hid (Below w.heap.size w wr)) (fun _ i _ => ts.length - (intOf i).toNat)
  case atStart => exact ⟨0, k0, by omega, rfl, rfl, by show _ = _; simp [costT], Below.refl _ _⟩
  case round =>
    obtain ⟨j, K, hj, rfl, rfl, HK, HB⟩ := hrel
    have hK1 : 1 ≤ K := by have := HK.out; omega
    have hK2 : K ≤ 50000000 := by have := HK.out; have := costT_le ts j; omega
    by_cases hlt : j < ts.length
    · have hlt' : (j : Int) < ts.length := by omega
      obtain ⟨b, off, rfl, hcell⟩ := HC.out (by have := HML.out; omega)
      have hjm : j < (markT k0 ts).length := by have := HML.out; omega
      have hcj := hcell j hjm
      have hget : (markT k0 ts)[j] = markTd K ts[j] := by
        have := markT_get ts k0 j hlt
        rw [List.getElem?_eq_getElem hjm] at this
        rw [HK.out]
        exact Option.some.inj this
      rw [hget] at hcj
      obtain ⟨c0, c1, c2, c3, lv, c4, hlv, kv, c5, hkv⟩ := hcj
      have c0 : wr.cell? ⟨b, off + j * 6, none⟩ = some (.int .i64 (K : Int)) := keep_cell HB.out c0
      have c1 : wr.cell? ⟨b, off + j * 6 + 1, none⟩ = some (.int .i64 ((K : Int) + 1)) := keep_cell HB.out c1
      have c2 : wr.cell? ⟨b, off + j * 6 + 2, none⟩ = some (.int .i64 ((K : Int) + 1 + 1)) := keep_cell HB.out c2
      have c3 : wr.cell? ⟨b, off + j * 6 + 3, none⟩ = some (.string (mt (K + 3))) := keep_cell HB.out c3
      have c4 := keep_cell HB.out c4
      have c5 := keep_cell HB.out c5
      have HLV : Hid (LevsAt wr lv (markLs (K + 4) ts[j].lv)) := hlv.keep HB.out
      have HKV : Hid (IntsAt wr kv (nums (K + 4 + costLs ts[j].lv) ts[j].kids.length)) := hkv.keep HB.out
      obtain ⟨la, lc, ln, rfl⟩ : ∃ la lc n, lv = .slice la n lc := by obtain ⟨a, cap, h, _⟩ := hlv; exact ⟨_, _, _, h⟩
      obtain ⟨ka, kc, kn, rfl⟩ : ∃ ka kc n, kv = .slice ka n kc := by obtain ⟨a, cap, h, _⟩ := hkv; exact ⟨_, _, _, h⟩
      obtain ⟨q1, q2, q3⟩ := HSM.out ts[j] (List.getElem_mem hlt)
      have HQ2 := hide q2
      have HCST : Hid (K + 4 + costLs ts[j].lv + ts[j].kids.length = k0 + costT (ts.take (j + 1))) := by show _ = _; rw [costT_snoc ts j hlt]; have := HK.out; omega
      have hKb : K + 4 + costLs ts[j].lv + ts[j].kids.length ≤ 50000000 := by have := HCST.out; have := costT_le ts (j + 1); omega
      have HMT := hide (fun W => markText_any (K + 3) W (by omega) (by omega))
      have HHL := hide (fun (W : World) (hW : Below wr.heap.size wr W) => heldLevelS_any (.slice la ln lc) ts[j].lv (K + 4) W (HLV.out.keep hW) HQ2.out (by omega) (by omega))
      have HHI := hide (fun (W : World) (hW : Below wr.heap.size wr W) => heldIntS_any (.slice ka kn kc) ts[j].kids.length (K + 4 + costLs ts[j].lv) W (HKV.out.keep hW) q3 (by omega))
      have hs0 : ((K : Int) != (K : Int)) = false := by simp
      have hs1 : ((K : Int) + 1 != (K : Int) + 1) = false := by simp
      have hs2 : ((K : Int) + 1 + 1 != (K : Int) + 1 + 1) = false := by simp
      have hself2 : ((mt (K + 3)).toList != (mt (K + 3)).toList) = false := by simp
      clear hcell hget hjm hlv hkv q2 HLV HKV
      generalize mt (K + 3) = ms at *
      obtain ⟨L, hL⟩ : ∃ L, L = costLs ts[j].lv := ⟨_, rfl⟩
      rw [← hL] at HHL HHI HCST hKb
      clear hL
      generalize ts[j].kids.length = kl at *
      rw [show ((K + 3 : Nat) : Int) = (K : Int) + 1 + 1 + 1 by omega] at HMT
      have hn1 : decide (((K + 4 + L : Nat) : Int) < 0) = false := by simp; omega
      have hn2 : decide (((K + 4 + L + kl : Nat) : Int) < 0) = false := by simp; omega
      go_wp2_with fail
      go_region_held3 (fun w' => w'.cell? ⟨b, off + j * 6 + 3, none⟩ = some (.string ms))
        (first
          | go_keep
          | exact keep_cell hb1 (by assumption)
          | fail)
        (first
          | (go_at_call 75; refine (HMT.out _).mono ?_; rintro e w1 ⟨rfl, hb1⟩)
          | fail)
      all_goals
        have hbb : Below wr.heap.size wr w1 := (show Below wr.heap.size wr wr.drew from ⟨rfl, rfl, rfl, Nat.le_refl _, fun _ _ => rfl⟩).trans (hb1.mono (Nat.le_refl _))
        have HL1 := hide (HHL.out w1 hbb)
        have HI1 := hide (HHI.out w1 hbb)
        have c4' := keep_cell hbb c4
        have c5' := keep_cell hbb c5
        have hl4 := lt_cell c4'
        have HBB := hide hbb
        have HB1 := hide (bel_trans HB.out hbb)
        rw [show ((K + 4 : Nat) : Int) = (K : Int) + 1 + 1 + 1 + 1 by omega] at HL1
        clear hb1 hbb c0 c1 c2 c3 c4 c5
        go_wp2_with fail
        refine HL1.out.mono ?_
        rintro e w2 ⟨rfl, hb2⟩
        have HI2 := hide (HHI.out w2 (bel_trans HBB.out hb2))
        have c5'' := keep_cell hb2 c5'
        have hl5 := lt_cell c5''
        have HB2 := hide (bel_trans HB1.out hb2)
        clear hb2 HL1 HI1 c4' c5'
        go_wp2_with fail
        refine HI2.out.mono ?_
        rintro e w3 ⟨rfl, hw3⟩
        subst hw3
        go_wp2_with fail
        go_roundw
        case rel => exact ⟨j + 1, K + 4 + L + kl, by omega, by go_num, by go_num, HCST, HB2⟩
        case measure => simp [intOf]; omega
    · have hjn : j = ts.length := by omega
      subst hjn
      have HR : Hid (K = k0 + costT ts) := by show _ = _; have := HK.out; rwa [List.take_length] at this
      go_wp2_with fail
      go_ret
      exact ⟨ret_int (by rw [HR.out]), HB.out⟩
set_option maxHeartbeats 1000000 in
theorem heldTerm_any (v : Value) (ts : List Td) (k0 : Nat) (w : World) (h : TNodesAt w v (markT k0 ts)) (hsm : ∀ td ∈ ts, TSmall td) (hk1 : 1 ≤ k0) (hk : k0 + costT ts ≤ 50000000) :
    Calls Tryz.prog 20 #[.agg #[v], .int .i64 k0] w fun e w' => e = .returned (.int .i64 ((k0 + costT ts : Nat) : Int)) ∧ Below w.heap.size w w' := by
  have HC := hide (heldNodeS_any v ts k0 (w.alloc (.cells #[v] 28)) (h.keep (bel_alloc (Below.refl _ _) _)) hsm hk1 hk)
  obtain ⟨a, cap, rfl, _⟩ := h
  have HB := hide (bel_alloc (Below.refl w.heap.size w) (.cells #[.slice a (markT k0 ts).length cap] 28))
  obtain ⟨M, hM⟩ : ∃ M, M = k0 + costT ts := ⟨_, rfl⟩
  rw [← hM] at HC ⊢
  have hneg : decide ((M : Int) < 0) = false := by simp
  clear hsm hM
  go_enter Tryz.func20, Tryz.ntmps20
  go_wp2_with fail
  refine HC.out.mono ?_
  rintro e w2 ⟨rfl, hb2⟩
  have HB2 := hide (bel_trans HB.out hb2)
  clear hb2
  go_wp2_with fail
  go_ret
  exact ⟨rfl, HB2.out⟩
end Go.Proofs.YtjkkojefpecbfaaGreat

/- What a law of a function that answers a term and a code keeps in sight: the answers, the boxes. How many marks an answer takes. No program is walked here. -/
namespace Go.Proofs.YtjkkojefpecbfaaGreat
open Go.ChangeShapes Go.WideShapes Go.ChangeAt Go.RowKit

theorem spell_of {ts : List Td} (h : tmSize ts ≤ 1048576) : ∀ td ∈ ts, (spell td.lv).length ≤ 1000000000 := by
  intro td htd
  have h1 := sumL_mem tdSize htd
  unfold tmSize at h
  have h2 : tdSize td = td.s.size + (td.lv.length + sumL lvSize td.lv) + td.kids.length := rfl
  have h3 := spell_len td.lv
  omega
/-- What each node of an answer keeps to. -/
def smP (h : Hd) (_ : Nat) : Prop := (∀ l ∈ h.lv, lvlB l = true) ∧ h.lv.length ≤ 6
theorem node_sm (h : Hd) (c : Nat) (hp : nodeP h c) : smP h c := ⟨lev_of hp.2, (lv_small hp).1⟩
theorem flat_mem {P : Hd → Nat → Prop} : ∀ (T : Tt) (o : Nat), T.all P → ∀ td ∈ T.flat o, td.kids.length ≤ 3 ∧ P td.hd td.kids.length
  | .t0 h, o, hp, td, hm => by
    simp only [Tt.flat, List.mem_singleton] at hm
    subst hm
    exact ⟨by simp [Hd.td], hp⟩
  | .t1 h a, o, hp, td, hm => by
    simp only [Tt.flat, List.mem_append, List.mem_singleton] at hm
    rcases hm with hm | rfl
    · exact flat_mem a _ hp.2 td hm
    · exact ⟨by simp [Hd.td], hp.1⟩
  | .t2 h a b, o, hp, td, hm => by
    simp only [Tt.flat, List.mem_append, List.mem_singleton] at hm
    rcases hm with (hm | hm) | rfl
    · exact flat_mem a _ hp.2.1 td hm
    · exact flat_mem b _ hp.2.2 td hm
    · exact ⟨by simp [Hd.td], hp.1⟩
  | .t3 h a b c, o, hp, td, hm => by
    simp only [Tt.flat, List.mem_append, List.mem_singleton] at hm
    rcases hm with ((hm | hm) | hm) | rfl
    · exact flat_mem a _ hp.2.1 td hm
    · exact flat_mem b _ hp.2.2.1 td hm
    · exact flat_mem c _ hp.2.2.2 td hm
    · exact ⟨by simp [Hd.td], hp.1⟩
theorem costN_two {l : List Nd} (h : ∀ nd ∈ l, nd.kids.length ≤ 2) : costN l ≤ 4 * l.length := by
  induction l with
  | nil => simp [costN]
  | cons x a ih =>
    have h1 := h x (by simp)
    have h2 := ih (fun nd hm => h nd (by simp [hm]))
    simp only [costN, List.length_cons]
    omega
theorem costLs_lvl {ls : List (List Nd)} (h : ∀ l ∈ ls, lvlB l = true) : costLs ls ≤ 256 * ls.length := by
  induction ls with
  | nil => simp [costLs]
  | cons x a ih =>
    obtain ⟨h1, h2⟩ := lvl_small (h x (by simp))
    have h3 := costN_two h2
    have h4 := ih (fun l hm => h l (by simp [hm]))
    simp only [costLs, List.length_cons]
    omega
theorem costT_each {c : Nat} {ts : List Td} (h : ∀ td ∈ ts, 4 + costLs td.lv + td.kids.length ≤ c) : costT ts ≤ c * ts.length := by
  induction ts with
  | nil => simp [costT]
  | cons x a ih =>
    have h1 := h x (by simp)
    have h2 := ih (fun td hm => h td (by simp [hm]))
    simp only [costT, List.length_cons, Nat.mul_add, Nat.mul_one]
    omega
/-- What an answer keeps to. -/
def AnsOk (r : List Td × Int) : Prop := r.1 = [] ∨ ∃ T : Tt, r.1 = T.flat 0 ∧ T.cnt ≤ 20000 ∧ T.all smP
theorem AnsOk.small {r : List Td × Int} (h : AnsOk r) : (∀ td ∈ r.1, TSmall td) ∧ r.1.length ≤ 20000 ∧ costT r.1 ≤ 31000000 := by
  rcases h with h | ⟨T, h1, h2, h3⟩
  · rw [h]; exact ⟨fun td hm => by simp at hm, by simp, by simp [costT]⟩
  · rw [h1]
    have hm := flat_mem T 0 h3
    have hl := T.flat_len 0
    refine ⟨fun td htd => ?_, by omega, ?_⟩
    · obtain ⟨q1, q2, q3⟩ := hm td htd
      refine ⟨by have : td.lv.length ≤ 6 := q3; omega, fun l hl => ?_, by omega⟩
      obtain ⟨p1, p2⟩ := lvl_small (q2 l hl)
      exact ⟨by omega, fun nd hnd => by have := p2 nd hnd; omega⟩
    · have := costT_each (c := 1543) (ts := T.flat 0) (fun td htd => by
        obtain ⟨q1, q2, q3⟩ := hm td htd
        have h4 := costLs_lvl (ls := td.lv) q2
        have h5 : td.lv.length ≤ 6 := q3
        omega)
      rw [hl] at this
      omega
theorem ansOk_fit {T : Tt} (h : T.all smP) : AnsOk (ansT (fitT T)) := by
  unfold fitT sizedT
  split
  · exact .inl rfl
  · split
    · exact .inr ⟨T, rfl, by assumption, h⟩
    · exact .inl rfl

/-- A term to be read in each world that keeps the blocks of a range. -/
def FrR (lo hi : Nat) (w : World) (v : Value) (ts : List Td) : Prop := ∀ w' : World, (∀ b : Nat, lo ≤ b → b < hi → w'.heap[b]? = w.heap[b]?) → TNodesAt w' v ts
theorem FrT.range {B : Nat} {w : World} {v : Value} {ts : List Td} (h : FrT B w v ts) : FrR B w.heap.size w v ts := fun w' hw => h w' hw
theorem FrR.at {lo hi : Nat} {w : World} {v : Value} {ts : List Td} (h : FrR lo hi w v ts) : TNodesAt w v ts := h w (fun _ _ _ => rfl)
theorem FrR.same {lo hi : Nat} {w w2 : World} {v : Value} {ts : List Td} (h : FrR lo hi w v ts) (hh : ∀ b : Nat, lo ≤ b → b < hi → w2.heap[b]? = w.heap[b]?) : FrR lo hi w2 v ts := fun w' hw => h w' (fun b q1 q2 => by rw [hw b q1 q2, hh b q1 q2])
/-- What stays known: the two answers, and the boxes. -/
structure LwS (w cur : World) (bs : List (Nat × Value)) (lo4 hi4 lo6 hi6 : Nat) (v4 v6 : Value) (ws gs : List Td) : Prop where
  bel : Below w.heap.size w cur
  big : hi4 ≤ cur.heap.size ∧ hi6 ≤ cur.heap.size
  a4 : FrR lo4 hi4 cur v4 ws
  a6 : TmV lo6 hi6 cur v6 gs
  box : ∀ p ∈ bs, cur.cell? ⟨p.1, 0, none⟩ = some p.2
theorem LwS.keep {w cur cur' : World} {bs : List (Nat × Value)} {lo4 hi4 lo6 hi6 : Nat} {v4 v6 : Value} {ws gs : List Td} (h : LwS w cur bs lo4 hi4 lo6 hi6 v4 v6 ws gs) (hb : Below cur.heap.size cur cur') : LwS w cur' bs lo4 hi4 lo6 hi6 v4 v6 ws gs :=
  ⟨bel_trans h.bel hb, by have := hb.size; have := h.big; omega, h.a4.same (fun b _ q => hb.block b (by have := h.big; omega)), h.a6.keep hb h.big.2, fun p hp => keep_cell hb (h.box p hp)⟩
theorem LwS.chg {w cur cur' : World} {bs : List (Nat × Value)} {lo4 hi4 lo6 hi6 lo hi : Nat} {v4 v6 : Value} {ws gs : List Td} (h : LwS w cur bs lo4 hi4 lo6 hi6 v4 v6 ws gs) (hc : Chg lo hi cur cur') (hw : w.heap.size ≤ lo) (h4 : hi4 ≤ lo ∨ hi ≤ lo4) (h6 : hi6 ≤ lo ∨ hi ≤ lo6) (hbs : ∀ p ∈ bs, p.1 < lo ∨ hi ≤ p.1) : LwS w cur' bs lo4 hi4 lo6 hi6 v4 v6 ws gs :=
  ⟨h.bel.trans (hc.1.mono (by omega)), by have := hc.1.size; have := h.big; omega, h.a4.same (fun b q1 q2 => hc.out (by omega) (by have := h.big; omega)), h.a6.same (fun b q1 q2 => hc.out (by omega) (by have := h.big; omega)), fun p hp => hc.cell (hbs p hp) (h.box p hp)⟩
/-- The answer itself is marked. -/
theorem LwS.mark {w cur cur' : World} {bs : List (Nat × Value)} {lo4 hi4 lo6 hi6 : Nat} {v4 v6 : Value} {ws gs gs' : List Td} (h : LwS w cur bs lo4 hi4 lo6 hi6 v4 v6 ws gs) (hv : TmV lo6 hi6 cur' v6 gs') (hc : Chg lo6 hi6 cur cur') (hw : w.heap.size ≤ lo6) (h4 : hi4 ≤ lo6 ∨ hi6 ≤ lo4) (hbs : ∀ p ∈ bs, p.1 < lo6 ∨ hi6 ≤ p.1) : LwS w cur' bs lo4 hi4 lo6 hi6 v4 v6 ws gs' :=
  ⟨h.bel.trans (hc.1.mono (by omega)), by have := hc.1.size; have := h.big; omega, h.a4.same (fun b q1 q2 => hc.out (by omega) (by have := h.big; omega)), hv, fun p hp => hc.cell (hbs p hp) (h.box p hp)⟩
theorem lift_sm (by' : Int) : ∀ (T : Tt) (f : Int), T.all smP → (liftR by' T f).all smP
  | .t0 h, f, hp => by
    unfold liftR
    split
    · exact hp
    · split
      · exact ⟨fun l hl => by simp at hl, by simp⟩
      · exact hp
  | .t1 h a, f, hp => by
    unfold liftR
    split
    · exact hp
    · exact ⟨hp.1, lift_sm by' a _ hp.2⟩
  | .t2 h a b, f, hp => by
    unfold liftR
    split
    · exact hp
    · exact ⟨hp.1, lift_sm by' a _ hp.2.1, lift_sm by' b _ hp.2.2⟩
  | .t3 h a b c, f, hp => by
    unfold liftR
    split
    · exact hp
    · exact ⟨hp.1, lift_sm by' a _ hp.2.1, lift_sm by' b _ hp.2.2.1, lift_sm by' c _ hp.2.2.2⟩
theorem lift_ok {ts : List Td} {T : Tt} (f by' : Int) (hT : TreeFor ts T) : AnsOk (liftA ts T f by') := by
  unfold liftA
  split
  · rename_i h
    exact ansOk_fit (lift_sm by' T f (all_mono node_sm (hT h.1).2))
  · exact .inl rfl
end Go.Proofs.YtjkkojefpecbfaaGreat
