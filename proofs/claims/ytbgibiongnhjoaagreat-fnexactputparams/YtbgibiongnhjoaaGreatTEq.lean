/- What heldLevelS and heldTerm answer at marked terms. -/
import Derived.Test.YtbgibiongnhjoaaGreatMkE
import Derived.Test.YtbgibiongnhjoaaGreatPpG
import Derived.Test.YtbgibiongnhjoaaGreatMkF
import Derived.Test.YtbgibiongnhjoaaGreatStG
import Derived.Test.YtbgibiongnhjoaaGreatStrS
import Derived.Test.YtbgibiongnhjoaaGreatLib
import Derived.Test.YtbgibiongnhjoaaGreatTree
namespace Go.Proofs.YtbgibiongnhjoaaGreat
open Go.ChangeShapes Go.WideShapes Go.ChangeAt Go.RowKit

set_option maxRecDepth 20000 in
set_option maxHeartbeats 4000000 in
theorem heldLevelS_any (v : Value) (ls : List (List Nd)) (k0 : Nat) (w : World) (h : LevsAt w v (markLs k0 ls)) (hkl : ∀ l ∈ ls, l.length ≤ 1048576 ∧ ∀ nd ∈ l, nd.kids.length ≤ 1048576) (hk1 : 1 ≤ k0) (hk : k0 + costLs ls ≤ 50000000) :
    Calls Tryz.prog 106 #[v, .int .i64 k0] w fun e w' => e = .returned (.int .i64 ((k0 + costLs ls : Nat) : Int)) ∧ Below w.heap.size w w' := by
  have HKL := hide hkl
  have hml := markLs_len ls k0
  obtain ⟨a, cap, rfl, h1, h2, hc⟩ := h
  have HC := hide hc
  rw [hml] at h1 ⊢
  unfold maxLen at h2
  have HML := hide hml
  clear hc hkl hml
  go_enter Tryz.func106, Tryz.ntmps106
  go_wp2_with fail
  go_loopw [1, 5] (fun m i wr => ∃ (j K : Nat), j ≤ ls.length ∧ i = .int .i64 j ∧ m = .int .i64 K ∧ Hid (K = k0 + costLs (ls.take j)) ∧ Hid (Below w.heap.size w wr)) (fun _ i _ => ls.length - (intOf i).toNat)
  case atStart => exact ⟨0, k0, by omega, rfl, rfl, by show _ = _; simp [costLs], Below.refl _ _⟩
  case round =>
    obtain ⟨j, K, hj, rfl, rfl, HK, HB⟩ := hrel
    have hK1 : 1 ≤ K := by have := HK.out; omega
    have hK2 : K ≤ 50000000 := by have := HK.out; have := costLs_le ls j; omega
    by_cases hlt : j < ls.length
    · have hlt' : (j : Int) < ls.length := by omega
      obtain ⟨b, off, rfl, hcell⟩ := HC.out (by have := HML.out; omega)
      have hjm : j < (markLs k0 ls).length := by have := HML.out; omega
      obtain ⟨u, c1, hu⟩ := hcell j hjm
      have hget : (markLs k0 ls)[j] = markN K ls[j] := by
        have := markLs_get ls k0 j hlt
        rw [List.getElem?_eq_getElem hjm] at this
        rw [HK.out]
        exact Option.some.inj this
      rw [hget] at hu
      have c1 := keep_cell HB.out c1
      obtain ⟨hl1, hl2⟩ := HKL.out ls[j] (List.getElem_mem hlt)
      have HCST : Hid (K + costN ls[j] = k0 + costLs (ls.take (j + 1))) := by show _ = _; rw [costLs_snoc ls j hlt]; have := HK.out; omega
      have HCALL := hide (heldLNodeS_any u ls[j] K wr (hu.keep HB.out) hl2 hK1 (by have := HCST.out; have := costLs_le ls (j + 1); omega))
      obtain ⟨ua, uc, hul, rfl⟩ : ∃ ua uc n, u = .slice ua n uc := by obtain ⟨a, cap, h, _⟩ := hu; exact ⟨_, _, _, h⟩
      clear hcell hget hjm hu hl2
      generalize costN ls[j] = cj at *
      have hneg : decide (((K + cj : Nat) : Int) < 0) = false := by simp; omega
      go_wp2_with fail
      refine HCALL.out.mono ?_
      rintro e w2 ⟨rfl, hb2⟩
      have HB2 := hide (bel_trans HB.out hb2)
      clear hb2 HCALL
      go_wp2_with fail
      go_roundw
      case rel => exact ⟨j + 1, K + cj, by omega, by go_num, rfl, HCST, HB2⟩
      case measure => simp [intOf]; omega
    · have hjn : j = ls.length := by omega
      subst hjn
      have HR : Hid (K = k0 + costLs ls) := by show _ = _; have := HK.out; rwa [List.take_length] at this
      go_wp2_with fail
      go_ret
      exact ⟨ret_int (by rw [HR.out]), HB.out⟩

set_option maxRecDepth 20000 in
set_option maxHeartbeats 8000000 in
theorem heldNodeS_any (v : Value) (ts : List Td) (k0 : Nat) (w : World) (h : TNodesAt w v (markT k0 ts)) (hsm : ∀ td ∈ ts, TSmall td) (hk1 : 1 ≤ k0) (hk : k0 + costT ts ≤ 50000000) :
    Calls Tryz.prog 58 #[v, .int .i64 k0] w fun e w' => e = .returned (.int .i64 ((k0 + costT ts : Nat) : Int)) ∧ Below w.heap.size w w' := by
  have HSM := hide hsm
  have hml := markT_len ts k0
  obtain ⟨a, cap, rfl, h1, h2, hc⟩ := h
  have HC := hide hc
  rw [hml] at h1 ⊢
  unfold maxLen at h2
  have HML := hide hml
  clear hc hsm hml
  go_enter Tryz.func58, Tryz.ntmps58
  go_wp2_with fail
  go_loopw [1, 5] (fun m i wr => ∃ (j K : Nat), j ≤ ts.length ∧ i = .int .i64 j ∧ m = .int .i64 K ∧ Hid (K = k0 + costT (ts.take j)) ∧ Hid (Below w.heap.size w wr)) (fun _ i _ => ts.length - (intOf i).toNat)
  case atStart => exact ⟨0, k0, by omega, rfl, rfl, by show _ = _; simp [costT], Below.refl _ _⟩
  case round =>
    obtain ⟨j, K, hj, rfl, rfl, HK, HB⟩ := hrel
    have hK1 : 1 ≤ K := by have := HK.out; omega
    have hK2 : K ≤ 50000000 := by have := HK.out; have := costT_le ts j; omega
    by_cases hlt : j < ts.length
    · have hlt' : (j : Int) < ts.length := by omega
      obtain ⟨b, off, rfl, hcell⟩ := HC.out (by have := HML.out; omega)
      have hjm : j < (markT k0 ts).length := by have := HML.out; omega
      have hcj := hcell j hjm
      have hget : (markT k0 ts)[j] = markTd K ts[j] := by
        have := markT_get ts k0 j hlt
        rw [List.getElem?_eq_getElem hjm] at this
        rw [HK.out]
        exact Option.some.inj this
      rw [hget] at hcj
      obtain ⟨c0, c1, c2, c3, lv, c4, hlv, kv, c5, hkv⟩ := hcj
      have c0 : wr.cell? ⟨b, off + j * 6, none⟩ = some (.int .i64 (K : Int)) := keep_cell HB.out c0
      have c1 : wr.cell? ⟨b, off + j * 6 + 1, none⟩ = some (.int .i64 ((K : Int) + 1)) := keep_cell HB.out c1
      have c2 : wr.cell? ⟨b, off + j * 6 + 2, none⟩ = some (.int .i64 ((K : Int) + 1 + 1)) := keep_cell HB.out c2
      have c3 : wr.cell? ⟨b, off + j * 6 + 3, none⟩ = some (.string (mt (K + 3))) := keep_cell HB.out c3
      have c4 := keep_cell HB.out c4
      have c5 := keep_cell HB.out c5
      have HLV : Hid (LevsAt wr lv (markLs (K + 4) ts[j].lv)) := hlv.keep HB.out
      have HKV : Hid (IntsAt wr kv (nums (K + 4 + costLs ts[j].lv) ts[j].kids.length)) := hkv.keep HB.out
      obtain ⟨la, lc, ln, rfl⟩ : ∃ la lc n, lv = .slice la n lc := by obtain ⟨a, cap, h, _⟩ := hlv; exact ⟨_, _, _, h⟩
      obtain ⟨ka, kc, kn, rfl⟩ : ∃ ka kc n, kv = .slice ka n kc := by obtain ⟨a, cap, h, _⟩ := hkv; exact ⟨_, _, _, h⟩
      obtain ⟨q1, q2, q3⟩ := HSM.out ts[j] (List.getElem_mem hlt)
      have HQ2 := hide q2
      have HCST : Hid (K + 4 + costLs ts[j].lv + ts[j].kids.length = k0 + costT (ts.take (j + 1))) := by show _ = _; rw [costT_snoc ts j hlt]; have := HK.out; omega
      have hKb : K + 4 + costLs ts[j].lv + ts[j].kids.length ≤ 50000000 := by have := HCST.out; have := costT_le ts (j + 1); omega
      have HMT := hide (fun W => markText_any (K + 3) W (by omega) (by omega))
      have HHL := hide (fun (W : World) (hW : Below wr.heap.size wr W) => heldLevelS_any (.slice la ln lc) ts[j].lv (K + 4) W (HLV.out.keep hW) HQ2.out (by omega) (by omega))
      have HHI := hide (fun (W : World) (hW : Below wr.heap.size wr W) => heldIntS_any (.slice ka kn kc) ts[j].kids.length (K + 4 + costLs ts[j].lv) W (HKV.out.keep hW) q3 (by omega))
      have hs0 : ((K : Int) != (K : Int)) = false := by simp
      have hs1 : ((K : Int) + 1 != (K : Int) + 1) = false := by simp
      have hs2 : ((K : Int) + 1 + 1 != (K : Int) + 1 + 1) = false := by simp
      have hself2 : ((mt (K + 3)).toList != (mt (K + 3)).toList) = false := by simp
      clear hcell hget hjm hlv hkv q2 HLV HKV
      generalize mt (K + 3) = ms at *
      obtain ⟨L, hL⟩ : ∃ L, L = costLs ts[j].lv := ⟨_, rfl⟩
      rw [← hL] at HHL HHI HCST hKb
      clear hL
      generalize ts[j].kids.length = kl at *
      rw [show ((K + 3 : Nat) : Int) = (K : Int) + 1 + 1 + 1 by omega] at HMT
      have hn1 : decide (((K + 4 + L : Nat) : Int) < 0) = false := by simp; omega
      have hn2 : decide (((K + 4 + L + kl : Nat) : Int) < 0) = false := by simp; omega
      go_wp2_with fail
      go_region_held3 (fun w' => w'.cell? ⟨b, off + j * 6 + 3, none⟩ = some (.string ms))
        (first
          | go_keep
          | exact keep_cell hb1 (by assumption)
          | fail)
        (first
          | (go_at_call 75; refine (HMT.out _).mono ?_; rintro e w1 ⟨rfl, hb1⟩)
          | fail)
      all_goals
        have hbb : Below wr.heap.size wr w1 := (show Below wr.heap.size wr wr.drew from ⟨rfl, rfl, rfl, Nat.le_refl _, fun _ _ => rfl⟩).trans (hb1.mono (Nat.le_refl _))
        have HL1 := hide (HHL.out w1 hbb)
        have HI1 := hide (HHI.out w1 hbb)
        have c4' := keep_cell hbb c4
        have c5' := keep_cell hbb c5
        have hl4 := lt_cell c4'
        have HBB := hide hbb
        have HB1 := hide (bel_trans HB.out hbb)
        rw [show ((K + 4 : Nat) : Int) = (K : Int) + 1 + 1 + 1 + 1 by omega] at HL1
        clear hb1 hbb c0 c1 c2 c3 c4 c5
        go_wp2_with fail
        refine HL1.out.mono ?_
        rintro e w2 ⟨rfl, hb2⟩
        have HI2 := hide (HHI.out w2 (bel_trans HBB.out hb2))
        have c5'' := keep_cell hb2 c5'
        have hl5 := lt_cell c5''
        have HB2 := hide (bel_trans HB1.out hb2)
        clear hb2 HL1 HI1 c4' c5'
        go_wp2_with fail
        refine HI2.out.mono ?_
        rintro e w3 ⟨rfl, hw3⟩
        subst hw3
        go_wp2_with fail
        go_roundw
        case rel => exact ⟨j + 1, K + 4 + L + kl, by omega, by go_num, by go_num, HCST, HB2⟩
        case measure => simp [intOf]; omega
    · have hjn : j = ts.length := by omega
      subst hjn
      have HR : Hid (K = k0 + costT ts) := by show _ = _; have := HK.out; rwa [List.take_length] at this
      go_wp2_with fail
      go_ret
      exact ⟨ret_int (by rw [HR.out]), HB.out⟩
set_option maxHeartbeats 1000000 in
theorem heldTerm_any (v : Value) (ts : List Td) (k0 : Nat) (w : World) (h : TNodesAt w v (markT k0 ts)) (hsm : ∀ td ∈ ts, TSmall td) (hk1 : 1 ≤ k0) (hk : k0 + costT ts ≤ 50000000) :
    Calls Tryz.prog 20 #[.agg #[v], .int .i64 k0] w fun e w' => e = .returned (.int .i64 ((k0 + costT ts : Nat) : Int)) ∧ Below w.heap.size w w' := by
  have HC := hide (heldNodeS_any v ts k0 (w.alloc (.cells #[v] 28)) (h.keep (bel_alloc (Below.refl _ _) _)) hsm hk1 hk)
  obtain ⟨a, cap, rfl, _⟩ := h
  have HB := hide (bel_alloc (Below.refl w.heap.size w) (.cells #[.slice a (markT k0 ts).length cap] 28))
  obtain ⟨M, hM⟩ : ∃ M, M = k0 + costT ts := ⟨_, rfl⟩
  rw [← hM] at HC ⊢
  have hneg : decide ((M : Int) < 0) = false := by simp
  clear hsm hM
  go_enter Tryz.func20, Tryz.ntmps20
  go_wp2_with fail
  refine HC.out.mono ?_
  rintro e w2 ⟨rfl, hb2⟩
  have HB2 := hide (bel_trans HB.out hb2)
  clear hb2
  go_wp2_with fail
  go_ret
  exact ⟨rfl, HB2.out⟩
end Go.Proofs.YtbgibiongnhjoaaGreat

/- What a law of a function that answers a term and a code keeps in sight: the answers, the boxes. How many marks an answer takes. No program is walked here. -/
namespace Go.Proofs.YtbgibiongnhjoaaGreat
open Go.ChangeShapes Go.WideShapes Go.ChangeAt Go.RowKit

theorem spell_of {ts : List Td} (h : tmSize ts ≤ 1048576) : ∀ td ∈ ts, (spell td.lv).length ≤ 1000000000 := by
  intro td htd
  have h1 := sumL_mem tdSize htd
  unfold tmSize at h
  have h2 : tdSize td = td.s.size + (td.lv.length + sumL lvSize td.lv) + td.kids.length := rfl
  have h3 := spell_len td.lv
  omega
/-- What each node of an answer keeps to. -/
def smP (h : Hd) (_ : Nat) : Prop := (∀ l ∈ h.lv, lvlB l = true) ∧ h.lv.length ≤ 6
theorem flat_mem {P : Hd → Nat → Prop} : ∀ (T : Tt) (o : Nat), T.all P → ∀ td ∈ T.flat o, td.kids.length ≤ 3 ∧ P td.hd td.kids.length
  | .t0 h, o, hp, td, hm => by
    simp only [Tt.flat, List.mem_singleton] at hm
    subst hm
    exact ⟨by simp [Hd.td], hp⟩
  | .t1 h a, o, hp, td, hm => by
    simp only [Tt.flat, List.mem_append, List.mem_singleton] at hm
    rcases hm with hm | rfl
    · exact flat_mem a _ hp.2 td hm
    · exact ⟨by simp [Hd.td], hp.1⟩
  | .t2 h a b, o, hp, td, hm => by
    simp only [Tt.flat, List.mem_append, List.mem_singleton] at hm
    rcases hm with (hm | hm) | rfl
    · exact flat_mem a _ hp.2.1 td hm
    · exact flat_mem b _ hp.2.2 td hm
    · exact ⟨by simp [Hd.td], hp.1⟩
  | .t3 h a b c, o, hp, td, hm => by
    simp only [Tt.flat, List.mem_append, List.mem_singleton] at hm
    rcases hm with ((hm | hm) | hm) | rfl
    · exact flat_mem a _ hp.2.1 td hm
    · exact flat_mem b _ hp.2.2.1 td hm
    · exact flat_mem c _ hp.2.2.2 td hm
    · exact ⟨by simp [Hd.td], hp.1⟩
theorem costN_two {l : List Nd} (h : ∀ nd ∈ l, nd.kids.length ≤ 2) : costN l ≤ 4 * l.length := by
  induction l with
  | nil => simp [costN]
  | cons x a ih =>
    have h1 := h x (by simp)
    have h2 := ih (fun nd hm => h nd (by simp [hm]))
    simp only [costN, List.length_cons]
    omega
theorem costLs_lvl {ls : List (List Nd)} (h : ∀ l ∈ ls, lvlB l = true) : costLs ls ≤ 256 * ls.length := by
  induction ls with
  | nil => simp [costLs]
  | cons x a ih =>
    obtain ⟨h1, h2⟩ := lvl_small (h x (by simp))
    have h3 := costN_two h2
    have h4 := ih (fun l hm => h l (by simp [hm]))
    simp only [costLs, List.length_cons]
    omega
theorem costT_each {c : Nat} {ts : List Td} (h : ∀ td ∈ ts, 4 + costLs td.lv + td.kids.length ≤ c) : costT ts ≤ c * ts.length := by
  induction ts with
  | nil => simp [costT]
  | cons x a ih =>
    have h1 := h x (by simp)
    have h2 := ih (fun td hm => h td (by simp [hm]))
    simp only [costT, List.length_cons, Nat.mul_add, Nat.mul_one]
    omega
/-- What an answer keeps to. -/
def AnsOk (r : List Td × Int) : Prop := r.1 = [] ∨ ∃ T : Tt, r.1 = T.flat 0 ∧ T.cnt ≤ 20000 ∧ T.all smP
theorem AnsOk.small {r : List Td × Int} (h : AnsOk r) : (∀ td ∈ r.1, TSmall td) ∧ r.1.length ≤ 20000 ∧ costT r.1 ≤ 31000000 := by
  rcases h with h | ⟨T, h1, h2, h3⟩
  · rw [h]; exact ⟨fun td hm => by simp at hm, by simp, by simp [costT]⟩
  · rw [h1]
    have hm := flat_mem T 0 h3
    have hl := T.flat_len 0
    refine ⟨fun td htd => ?_, by omega, ?_⟩
    · obtain ⟨q1, q2, q3⟩ := hm td htd
      refine ⟨by have : td.lv.length ≤ 6 := q3; omega, fun l hl => ?_, by omega⟩
      obtain ⟨p1, p2⟩ := lvl_small (q2 l hl)
      exact ⟨by omega, fun nd hnd => by have := p2 nd hnd; omega⟩
    · have := costT_each (c := 1543) (ts := T.flat 0) (fun td htd => by
        obtain ⟨q1, q2, q3⟩ := hm td htd
        have h4 := costLs_lvl (ls := td.lv) q2
        have h5 : td.lv.length ≤ 6 := q3
        omega)
      rw [hl] at this
      omega
/-- A term to be read in each world that keeps the blocks of a range. -/
def FrR (lo hi : Nat) (w : World) (v : Value) (ts : List Td) : Prop := ∀ w' : World, (∀ b : Nat, lo ≤ b → b < hi → w'.heap[b]? = w.heap[b]?) → TNodesAt w' v ts
theorem FrT.range {B : Nat} {w : World} {v : Value} {ts : List Td} (h : FrT B w v ts) : FrR B w.heap.size w v ts := fun w' hw => h w' hw
theorem FrR.at {lo hi : Nat} {w : World} {v : Value} {ts : List Td} (h : FrR lo hi w v ts) : TNodesAt w v ts := h w (fun _ _ _ => rfl)
theorem FrR.same {lo hi : Nat} {w w2 : World} {v : Value} {ts : List Td} (h : FrR lo hi w v ts) (hh : ∀ b : Nat, lo ≤ b → b < hi → w2.heap[b]? = w.heap[b]?) : FrR lo hi w2 v ts := fun w' hw => h w' (fun b q1 q2 => by rw [hw b q1 q2, hh b q1 q2])
/-- What stays known: the two answers, and the boxes. -/
structure LwS (w cur : World) (bs : List (Nat × Value)) (lo4 hi4 lo6 hi6 : Nat) (v4 v6 : Value) (ws gs : List Td) : Prop where
  bel : Below w.heap.size w cur
  big : hi4 ≤ cur.heap.size ∧ hi6 ≤ cur.heap.size
  a4 : FrR lo4 hi4 cur v4 ws
  a6 : TmV lo6 hi6 cur v6 gs
  box : ∀ p ∈ bs, cur.cell? ⟨p.1, 0, none⟩ = some p.2
theorem LwS.keep {w cur cur' : World} {bs : List (Nat × Value)} {lo4 hi4 lo6 hi6 : Nat} {v4 v6 : Value} {ws gs : List Td} (h : LwS w cur bs lo4 hi4 lo6 hi6 v4 v6 ws gs) (hb : Below cur.heap.size cur cur') : LwS w cur' bs lo4 hi4 lo6 hi6 v4 v6 ws gs :=
  ⟨bel_trans h.bel hb, by have := hb.size; have := h.big; omega, h.a4.same (fun b _ q => hb.block b (by have := h.big; omega)), h.a6.keep hb h.big.2, fun p hp => keep_cell hb (h.box p hp)⟩
theorem LwS.chg {w cur cur' : World} {bs : List (Nat × Value)} {lo4 hi4 lo6 hi6 lo hi : Nat} {v4 v6 : Value} {ws gs : List Td} (h : LwS w cur bs lo4 hi4 lo6 hi6 v4 v6 ws gs) (hc : Chg lo hi cur cur') (hw : w.heap.size ≤ lo) (h4 : hi4 ≤ lo ∨ hi ≤ lo4) (h6 : hi6 ≤ lo ∨ hi ≤ lo6) (hbs : ∀ p ∈ bs, p.1 < lo ∨ hi ≤ p.1) : LwS w cur' bs lo4 hi4 lo6 hi6 v4 v6 ws gs :=
  ⟨h.bel.trans (hc.1.mono (by omega)), by have := hc.1.size; have := h.big; omega, h.a4.same (fun b q1 q2 => hc.out (by omega) (by have := h.big; omega)), h.a6.same (fun b q1 q2 => hc.out (by omega) (by have := h.big; omega)), fun p hp => hc.cell (hbs p hp) (h.box p hp)⟩
/-- The answer itself is marked. -/
theorem LwS.mark {w cur cur' : World} {bs : List (Nat × Value)} {lo4 hi4 lo6 hi6 : Nat} {v4 v6 : Value} {ws gs gs' : List Td} (h : LwS w cur bs lo4 hi4 lo6 hi6 v4 v6 ws gs) (hv : TmV lo6 hi6 cur' v6 gs') (hc : Chg lo6 hi6 cur cur') (hw : w.heap.size ≤ lo6) (h4 : hi4 ≤ lo6 ∨ hi6 ≤ lo4) (hbs : ∀ p ∈ bs, p.1 < lo6 ∨ hi6 ≤ p.1) : LwS w cur' bs lo4 hi4 lo6 hi6 v4 v6 ws gs' :=
  ⟨h.bel.trans (hc.1.mono (by omega)), by have := hc.1.size; have := h.big; omega, h.a4.same (fun b q1 q2 => hc.out (by omega) (by have := h.big; omega)), hv, fun p hp => hc.cell (hbs p hp) (h.box p hp)⟩
end Go.Proofs.YtbgibiongnhjoaaGreat

/- What the laws' szStringS and toStringS answer. -/
namespace Go.Proofs.YtbgibiongnhjoaaGreat
open Go.ChangeShapes Go.WideShapes Go.ChangeAt Go.RowKit

set_option maxHeartbeats 1000000 in
theorem szStringS_any (v : Value) (ss : List ByteArray) (left : Int) (w : World) (hss : StrsAt w v ss) (hsz : ∀ s ∈ ss, s.size ≤ maxLen) (h0 : 0 ≤ left) (h1 : left ≤ 1048576) :
    Calls Tryz.prog 30 #[v, .int .i64 left] w fun e w' => e = .returned (.int .i64 (leftOf left (ss.length + strSum ss))) ∧ w' = w := by
  obtain ⟨a, cap, rfl, hlc, hcm, hc⟩ := hss
  unfold maxLen at hcm
  by_cases h : left < ss.length
  · go_enter Tryz.func30, Tryz.ntmps30
    go_wp2_with fail
    go_ret
    exact ⟨ret_int (by rw [leftOf, if_pos (by omega)]), rfl⟩
  have HC := hide hc
  have HZ := hide hsz
  have d0 : decide (left - (ss.length : Int) < 0) = false := by simp; omega
  clear hc hsz
  go_enter Tryz.func30, Tryz.ntmps30
  go_wp2_with fail
  go_loop [1, 5] (fun l i => ∃ k : Nat, k ≤ ss.length ∧ i = .int .i64 k ∧ (strSum (ss.take k) : Int) ≤ left - ss.length ∧ l = .int .i64 (left - ss.length - strSum (ss.take k))) (fun _ i => ss.length - (intOf i).toNat)
  case atStart => exact ⟨0, by omega, rfl, by simp [strSum]; omega, by simp [strSum]⟩
  case round =>
    obtain ⟨k, hk, rfl, hsum, rfl⟩ := hrel
    by_cases hlt : k < ss.length
    · obtain ⟨b, off, ha, hcc⟩ := HC.out (by omega)
      subst ha
      have c1 := hcc k hlt
      have hsnoc := strSum_snoc ss k hlt
      have hle := strSum_le ss (k + 1)
      have hsl := HZ.out ss[k] (by simp)
      unfold maxLen at hsl
      have hlt' : (k : Int) < ss.length := by omega
      clear hcc
      generalize ss[k] = q at *
      have HS := hide hsnoc
      clear hsnoc
      obtain ⟨L, hL⟩ : ∃ L : Int, L = left - ss.length - strSum (ss.take k) := ⟨_, rfl⟩
      rw [← hL]
      have hL0 : 0 ≤ L := by omega
      have hL1 : L ≤ 1048576 := by omega
      have HLL := hide hL
      clear hL
      by_cases h3 : L < q.size
      · go_wp2_with fail
        go_ret
        have := HLL.out; have := HS.out
        exact ⟨ret_int (by rw [leftOf, if_pos (by omega)]), rfl⟩
      · have d1 : decide (L - (q.size : Int) < 0) = false := by simp; omega
        go_wp2_with fail
        go_round
        case rel =>
          have := HLL.out; have := HS.out
          exact ⟨k + 1, by omega, by go_num, by omega, by rw [show L - q.size = left - ss.length - strSum (ss.take (k + 1)) from by omega]⟩
        case measure => simp [intOf]; omega
    · have hke : ss.take k = ss := List.take_of_length_le (by omega)
      rw [hke] at hsum ⊢
      clear hke
      go_wp2_with fail
      go_ret
      exact ⟨ret_int (by rw [leftOf, if_neg (by omega)]; omega), rfl⟩
set_option maxHeartbeats 1000000 in
theorem toStringS_own (v : Value) (ss : List ByteArray) (w : World) (hk : StrsAt w v ss) (hl : ss.length ≤ 1048576) :
    Calls Tryz.prog 33 #[v] w fun e w' => ∃ g, e = .returned (.slice (some ⟨g, 0, none⟩) ss.length ss.length) ∧ w'.ownsRow w.heap.size 9 1 (.slice (some ⟨g, 0, none⟩) ss.length ss.length) ss.length (ss.map Value.string) ∧ w.heap.size ≤ g ∧ Below w.heap.size w w' := by
  obtain ⟨i0, hi, hz0, hz1, hz2⟩ := info_parts Tryz.info9
  obtain ⟨a, cap, rfl, hlc, hcm, hc⟩ := hk
  have HC := hide hc
  clear hc
  go_enter Tryz.func33, Tryz.ntmps33
  go_wp2_with (at_make; refine wpList_make_full _ rfl _ _ 48 rfl w.heap.size 9 i0 (.string ⟨#[]⟩) 1 Tryz.underlying48 hi hz0 hz1 .i64 .i64 _ _ ss.length rfl rfl rfl rfl (by rw [hz2]; omega) (by unfold maxLen; omega) (Nat.le_refl _) ?_; intro w1 hown hgrow)
  go_loopw [4] (fun i wr => ∃ (k : Nat) (xs : List Value), k ≤ ss.length ∧ i = .int .i64 k ∧ wr.ownsRow w.heap.size 9 1 (.slice (some ⟨w.heap.size, 0, none⟩) ss.length ss.length) ss.length xs ∧ Hid (∀ j (h : j < ss.length), j < k → xs[j]? = some (.string ss[j])) ∧ Below w.heap.size w wr) (fun i _ => ss.length - (intOf i).toNat)
  case atStart => exact ⟨0, _, by omega, rfl, hown, fun j _ h => by omega, (Below.refl _ _).grown hgrow (Nat.le_refl _) (fun k hk => by cases hk)⟩
  case round =>
    obtain ⟨k, xs, hk, rfl, hownr, HX, hbel⟩ := hrel
    by_cases hlt : k < ss.length
    · obtain ⟨b, off, ha, hcc⟩ := HC.out (by omega)
      subst ha
      have c1 := keep_cell hbel (hcc k hlt)
      have hst := hownr.stored k (.string ss[k])
      have hfz := hownr.frozenAt k
      have hce := hownr.cellAt k (by omega)
      have hxl := hownr.1
      obtain ⟨u, hu⟩ : ∃ u, xs[k]? = some u := ⟨xs[k]'(by omega), by simp⟩
      rw [hu] at hce
      have HX2 : Hid (∀ j (h : j < ss.length), j < k + 1 → (xs.set k (.string ss[k]))[j]? = some (.string ss[j])) := by
        intro j hj hjk
        rw [List.getElem?_set]
        by_cases e : k = j
        · subst e; rw [if_pos rfl, if_pos (by omega)]
        · rw [if_neg e]; exact HX.out j hj (by omega)
      clear hcc hu hown hgrow
      generalize ss[k] = q at *
      go_wp2_with fail
      go_roundw
      case rel => exact ⟨k + 1, _, by omega, by go_num, hst.1, HX2, hbel.setCell (Nat.le_refl _) _⟩
      case measure => simp [intOf]; omega
    · have hxs : xs = ss.map Value.string := by
        refine List.ext_getElem? fun q => ?_
        by_cases hq : q < ss.length
        · rw [HX.out q hq (by omega), List.getElem?_map, List.getElem?_eq_getElem hq]; rfl
        · have h1 := hownr.1
          rw [List.getElem?_eq_none (by omega), List.getElem?_eq_none (by rw [List.length_map]; omega)]
      have hints := hownr
      rw [hxs] at hints
      clear hxs
      clear hown hgrow hownr
      go_wp2_with fail
      go_ret
      exact ⟨_, rfl, hints, Nat.le_refl _, hbel⟩
end Go.Proofs.YtbgibiongnhjoaaGreat

/- What the comparing of two terms (eqTerm and what it calls) answers at two terms with the same nodes: true; nothing that was there is written. -/
namespace Go.Proofs.YtbgibiongnhjoaaGreat
open Go.ChangeShapes Go.WideShapes Go.ChangeAt Go.RowKit

set_option maxHeartbeats 1000000 in
theorem eqLevelS_any (v1 v2 : Value) (ls : List (List Nd)) (w : World) (h1 : LevsAt w v1 ls) (h2 : LevsAt w v2 ls) :
    Calls Tryz.prog 37 #[v1, v2] w fun e w' => e = .returned (.bool true) ∧ Below w.heap.size w w' := by
  obtain ⟨a1, cap1, rfl, hl1, hm1, hc1⟩ := h1
  obtain ⟨a2, cap2, rfl, hl2, hm2, hc2⟩ := h2
  unfold maxLen at hm1 hm2
  have H1 : Hid (0 < ls.length → ∃ b off, a1 = some ⟨b, off, none⟩ ∧ ∀ i (h : i < ls.length), ∃ u, w.cell? ⟨b, off + i, none⟩ = some u ∧ NodesAt w u ls[i]) := hc1
  have H2 : Hid (0 < ls.length → ∃ b off, a2 = some ⟨b, off, none⟩ ∧ ∀ i (h : i < ls.length), ∃ u, w.cell? ⟨b, off + i, none⟩ = some u ∧ NodesAt w u ls[i]) := hc2
  clear hc1 hc2
  go_enter Tryz.func37, Tryz.ntmps37
  go_wp2_with fail
  go_loopw [5] (fun i wr => ∃ (k : Nat), k ≤ ls.length ∧ i = .int .i64 k ∧ Below w.heap.size w wr) (fun i _ => ls.length - (intOf i).toNat)
  case atStart => exact ⟨0, by omega, rfl, Below.refl _ _⟩
  case round =>
    obtain ⟨k, hk, rfl, hbel⟩ := hrel
    by_cases hlt : k < ls.length
    · obtain ⟨b1, o1, rfl, c1⟩ := H1.out (by omega)
      obtain ⟨b2, o2, rfl, c2⟩ := H2.out (by omega)
      obtain ⟨u1, p1, p2⟩ := c1 k hlt
      obtain ⟨u2, q1, q2⟩ := c2 k hlt
      have p1' := keep_cell hbel p1
      have q1' := keep_cell hbel q1
      have P2 := hide (p2.keep hbel)
      have Q2 := hide (q2.keep hbel)
      have hlt' : (k : Int) < ls.length := by omega
      clear c1 c2 H1 H2 p1 q1
      generalize ls[k] = ns at *
      obtain ⟨ua, uc, rfl, _, _, _⟩ := p2
      obtain ⟨va, vc, rfl, _, _, _⟩ := q2
      go_wp2_with fail
      go_region_with (go_at_call 74; refine (eqLevel_any _ _ ns _ ?_ ?_).mono ?_; exact P2.out.keep (below_drewN (Below.refl _ _) _); exact Q2.out.keep (below_drewN (Below.refl _ _) _); rintro e w1 ⟨rfl, hb⟩)
      all_goals
        go_wp2_with fail
        go_roundw
        case rel => exact ⟨k + 1, by omega, by go_num, hbel.drew.trans (hb.mono hbel.size)⟩
        case measure => simp [intOf]; omega
    · go_wp2_with fail
      go_ret
      exact ⟨rfl, hbel⟩

set_option maxHeartbeats 1000000 in
theorem eqNode_any (td : Td) (l1 k1 l2 k2 : Value) (w : World) (hl1 : LevsAt w l1 td.lv) (hl2 : LevsAt w l2 td.lv) (h1 : IntsAt w k1 td.kids) (h2 : IntsAt w k2 td.kids) :
    Calls Tryz.prog 104 #[.agg #[.int .i64 td.k, .int .i64 td.n, .int .i64 td.m, .string td.s, l1, k1], .agg #[.int .i64 td.k, .int .i64 td.n, .int .i64 td.m, .string td.s, l2, k2]] w fun e w' => e = .returned (.bool true) ∧ Below w.heap.size w w' := by
  have b2 : ∀ o1 o2, Below w.heap.size w ((w.alloc o1).alloc o2) := fun o1 o2 => (((Below.refl w.heap.size w).alloc (Nat.le_refl _) o1).alloc (by simp) o2)
  have H1 : Hid (∀ o1 o2, IntsAt ((w.alloc o1).alloc o2) k1 td.kids) := fun o1 o2 => h1.keep (b2 o1 o2)
  have H2 : Hid (∀ o1 o2, IntsAt ((w.alloc o1).alloc o2) k2 td.kids) := fun o1 o2 => h2.keep (b2 o1 o2)
  have L1 : Hid (∀ o1 o2, LevsAt ((w.alloc o1).alloc o2) l1 td.lv) := fun o1 o2 => hl1.keep (b2 o1 o2)
  have L2 : Hid (∀ o1 o2, LevsAt ((w.alloc o1).alloc o2) l2 td.lv) := fun o1 o2 => hl2.keep (b2 o1 o2)
  have HB2 := hide b2
  obtain ⟨a1, cap1, rfl, _, _, _⟩ := h1
  obtain ⟨a2, cap2, rfl, _, _, _⟩ := h2
  obtain ⟨la1, lc1, rfl, _, _, _⟩ := hl1
  obtain ⟨la2, lc2, rfl, _, _, _⟩ := hl2
  clear b2
  go_enter Tryz.func104, Tryz.ntmps104
  go_wp2_with fail
  refine (eqLevelS_any _ _ td.lv _ (L1.out _ _) (L2.out _ _)).mono ?_
  rintro e w1 ⟨rfl, hb⟩
  have x1 : w1.cell? ⟨w.heap.size, 5, none⟩ = some (.slice a1 td.kids.length cap1) := keep_cell hb (by simp [go_sem])
  have x2 : w1.cell? ⟨w.heap.size + 1, 5, none⟩ = some (.slice a2 td.kids.length cap2) := keep_cell hb (by simp [go_sem])
  have HB := hide hb
  clear hb
  go_wp2_with (go_at_call 152; refine (eqIntS_any _ _ td.kids _ ((H1.out _ _).keep HB.out) ((H2.out _ _).keep HB.out)).mono ?_; rintro e w2 ⟨rfl, n, rfl⟩)
  go_ret
  exact ⟨rfl, below_drewN ((HB2.out _ _).trans (HB.out.mono (by simp; omega))) n⟩

set_option maxHeartbeats 1000000 in
theorem eqNodeS_any (v1 v2 : Value) (ts : List Td) (w : World) (h1 : TNodesAt w v1 ts) (h2 : TNodesAt w v2 ts) :
    Calls Tryz.prog 56 #[v1, v2] w fun e w' => e = .returned (.bool true) ∧ Below w.heap.size w w' := by
  obtain ⟨a1, cap1, rfl, hl1, hm1, hc1⟩ := h1
  obtain ⟨a2, cap2, rfl, hl2, hm2, hc2⟩ := h2
  unfold maxLen at hm1 hm2
  have H1 : Hid (0 < ts.length → ∃ b off, a1 = some ⟨b, off, none⟩ ∧ ∀ i (h : i < ts.length), TNodeAt w b (off + i * 6) ts[i]) := hc1
  have H2 : Hid (0 < ts.length → ∃ b off, a2 = some ⟨b, off, none⟩ ∧ ∀ i (h : i < ts.length), TNodeAt w b (off + i * 6) ts[i]) := hc2
  clear hc1 hc2
  go_enter Tryz.func56, Tryz.ntmps56
  go_wp2_with fail
  go_loopw [5] (fun i wr => ∃ (k : Nat), k ≤ ts.length ∧ i = .int .i64 k ∧ Below w.heap.size w wr) (fun i _ => ts.length - (intOf i).toNat)
  case atStart => exact ⟨0, by omega, rfl, Below.refl _ _⟩
  case round =>
    obtain ⟨k, hk, rfl, hbel⟩ := hrel
    by_cases hlt : k < ts.length
    · obtain ⟨b1, o1, rfl, c1⟩ := H1.out (by omega)
      obtain ⟨b2, o2, rfl, c2⟩ := H2.out (by omega)
      have n1 := (c1 k hlt).keep hbel
      have n2 := (c2 k hlt).keep hbel
      have hlt' : (k : Int) < ts.length := by omega
      clear c1 c2 H1 H2
      generalize ts[k] = td at *
      obtain ⟨p1, p2, p3, p4, l1, p5, hl1', k1, p6, hk1⟩ := n1
      obtain ⟨q1, q2, q3, q4, l2, q5, hl2', k2, q6, hk2⟩ := n2
      have L1 := hide hl1'
      have L2 := hide hl2'
      have K1 := hide hk1
      have K2 := hide hk2
      obtain ⟨la1, lc1, rfl, _, _, _⟩ := hl1'
      obtain ⟨la2, lc2, rfl, _, _, _⟩ := hl2'
      obtain ⟨ka1, kc1, rfl, _, _, _⟩ := hk1
      obtain ⟨ka2, kc2, rfl, _, _, _⟩ := hk2
      go_wp2_with fail
      go_region_with (go_at_call 104; refine (eqNode_any td _ _ _ _ _ ?_ ?_ ?_ ?_).mono ?_; exact L1.out.keep (below_drewN (Below.refl _ _) _); exact L2.out.keep (below_drewN (Below.refl _ _) _); exact K1.out.keep (below_drewN (Below.refl _ _) _); exact K2.out.keep (below_drewN (Below.refl _ _) _); rintro e w1 ⟨rfl, hb⟩)
      all_goals
        go_wp2_with fail
        go_roundw
        case rel => exact ⟨k + 1, by omega, by go_num, hbel.drew.trans (hb.mono hbel.size)⟩
        case measure => simp [intOf]; omega
    · go_wp2_with fail
      go_ret
      exact ⟨rfl, hbel⟩

set_option maxHeartbeats 1000000 in
theorem eqTerm_any (v1 v2 : Value) (ts : List Td) (w : World) (h1 : TNodesAt w v1 ts) (h2 : TNodesAt w v2 ts) :
    Calls Tryz.prog 16 #[.agg #[v1], .agg #[v2]] w fun e w' => e = .returned (.bool true) ∧ Below w.heap.size w w' := by
  have H1 : Hid (∀ o1 o2, TNodesAt ((w.alloc o1).alloc o2) v1 ts) := fun o1 o2 => h1.keep (((Below.refl w.heap.size w).alloc (Nat.le_refl _) o1).alloc (by simp) o2)
  have H2 : Hid (∀ o1 o2, TNodesAt ((w.alloc o1).alloc o2) v2 ts) := fun o1 o2 => h2.keep (((Below.refl w.heap.size w).alloc (Nat.le_refl _) o1).alloc (by simp) o2)
  obtain ⟨a1, cap1, rfl, _, _, _⟩ := h1
  obtain ⟨a2, cap2, rfl, _, _, _⟩ := h2
  go_enter Tryz.func16, Tryz.ntmps16
  go_wp2_with (go_at_call 56; refine (eqNodeS_any _ _ ts _ (H1.out _ _) (H2.out _ _)).mono ?_; rintro e w1 ⟨rfl, hb⟩)
  go_ret
  exact ⟨rfl, (((Below.refl w.heap.size w).alloc (Nat.le_refl _) _).alloc (by simp) _).trans (hb.mono (by simp; omega))⟩
end Go.Proofs.YtbgibiongnhjoaaGreat
