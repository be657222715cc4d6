/- Lifting the variables of a tree, as the specification and as the program do it. No program is walked here. -/
import Derived.Test.YtjkkojefpecbfaaGreatTrC
import Derived.Test.YtjkkojefpecbfaaGreatTFTree
namespace Go.Proofs.YtjkkojefpecbfaaGreat

def varT (n : Int) : Tt := .t0 ⟨1, n, 0, ⟨#[]⟩, []⟩
/-- A variable's number that is too great, somewhere in a tree. -/
def Tt.far : Tt → Bool
  | .t0 h => decide (h.k = 1) && decide (20000 < h.n)
  | .t1 h a => (decide (h.k = 1) && decide (20000 < h.n)) || a.far
  | .t2 h a b => (decide (h.k = 1) && decide (20000 < h.n)) || a.far || b.far
  | .t3 h a b c => (decide (h.k = 1) && decide (20000 < h.n)) || a.far || b.far || c.far
/-- The specification's lifting. -/
def liftR (by' : Int) : Tt → Int → Tt
  | .t0 h, f => if (Tt.t0 h).z.lo ≤ f ∨ by' = 0 then .t0 h else if h.k = 1 then varT (h.n + by') else .t0 h
  | .t1 h a, f => if (Tt.t1 h a).z.lo ≤ f ∨ by' = 0 then .t1 h a else .t1 h (liftR by' a (f + bindN h.k 0))
  | .t2 h a b, f => if (Tt.t2 h a b).z.lo ≤ f ∨ by' = 0 then .t2 h a b else .t2 h (liftR by' a (f + bindN h.k 0)) (liftR by' b (f + bindN h.k 1))
  | .t3 h a b c, f => if (Tt.t3 h a b c).z.lo ≤ f ∨ by' = 0 then .t3 h a b c else .t3 h (liftR by' a (f + bindN h.k 0)) (liftR by' b (f + bindN h.k 1)) (liftR by' c (f + bindN h.k 2))
/-- A tree that is not too great. -/
def sizedT (T : Tt) : Option Tt := if T.cnt ≤ 20000 then some T else none
/-- The program's lifting: nothing where it gives the great node. -/
def liftO (by' : Int) : Tt → Int → Option Tt
  | .t0 h, f => if (Tt.t0 h).z.lo ≤ f then some (.t0 h) else if h.k = 1 then (if 20000 < h.n + by' then none else some (varT (h.n + by'))) else some (.t0 h)
  | .t1 h a, f => if (Tt.t1 h a).z.lo ≤ f then some (.t1 h a) else
    match liftO by' a (f + bindN h.k 0) with
    | some a' => sizedT (.t1 h a')
    | none => none
  | .t2 h a b, f => if (Tt.t2 h a b).z.lo ≤ f then some (.t2 h a b) else
    match liftO by' a (f + bindN h.k 0), liftO by' b (f + bindN h.k 1) with
    | some a', some b' => sizedT (.t2 h a' b')
    | _, _ => none
  | .t3 h a b c, f => if (Tt.t3 h a b c).z.lo ≤ f then some (.t3 h a b c) else
    match liftO by' a (f + bindN h.k 0), liftO by' b (f + bindN h.k 1), liftO by' c (f + bindN h.k 2) with
    | some a', some b', some c' => sizedT (.t3 h a' b' c')
    | _, _, _ => none
theorem liftR_cnt (by' : Int) : ∀ (T : Tt) (f : Int), (liftR by' T f).cnt = T.cnt
  | .t0 h, f => by
    unfold liftR
    split
    · rfl
    · split <;> rfl
  | .t1 h a, f => by
    unfold liftR
    split
    · rfl
    · simp [Tt.cnt, liftR_cnt by' a]
  | .t2 h a b, f => by
    unfold liftR
    split
    · rfl
    · simp [Tt.cnt, liftR_cnt by' a, liftR_cnt by' b]
  | .t3 h a b c, f => by
    unfold liftR
    split
    · rfl
    · simp [Tt.cnt, liftR_cnt by' a, liftR_cnt by' b, liftR_cnt by' c]
/-- What a valid tree's variables keep to. -/
def varP (h : Hd) (c : Nat) : Prop := (h.k = 1 → h.n ≤ 20000 ∧ h = ⟨1, h.n, 0, ⟨#[]⟩, []⟩) ∧ (1 ≤ c → h.k ≠ 1)
theorem far_no : ∀ (T : Tt), T.all varP → T.far = false
  | .t0 h, hp => by
    by_cases e : h.k = 1
    · have := (hp.1 e).1
      simp [Tt.far]; omega
    · simp [Tt.far, e]
  | .t1 h a, hp => by simp [Tt.far, hp.1.2 (by omega), far_no a hp.2]
  | .t2 h a b, hp => by simp [Tt.far, hp.1.2 (by omega), far_no a hp.2.1, far_no b hp.2.2]
  | .t3 h a b c, hp => by simp [Tt.far, hp.1.2 (by omega), far_no a hp.2.1, far_no b hp.2.2.1, far_no c hp.2.2.2]
theorem liftR_zero : ∀ (T : Tt) (f : Int), liftR 0 T f = T
  | .t0 h, f => by simp [liftR]
  | .t1 h a, f => by simp [liftR]
  | .t2 h a b, f => by simp [liftR]
  | .t3 h a b c, f => by simp [liftR]
/-- Both lift alike. -/
theorem lift_both (by' : Int) : ∀ (T : Tt) (f : Int), T.all varP → T.cnt ≤ 20000 → liftO by' T f = if (liftR by' T f).far = true then none else some (liftR by' T f)
  | .t0 h, f, hp, hc => by
    unfold liftO
    by_cases h1 : (Tt.t0 h).z.lo ≤ f
    · rw [if_pos h1]
      have e : liftR by' (.t0 h) f = .t0 h := by unfold liftR; rw [if_pos (.inl h1)]
      rw [e, far_no _ hp]
      simp
    · rw [if_neg h1]
      by_cases h2 : h.k = 1
      · rw [if_pos h2]
        by_cases h0 : by' = 0
        · subst h0
          rw [liftR_zero, far_no _ hp]
          have := (hp.1 h2).1
          have e := (hp.1 h2).2
          rw [if_neg (by omega), Int.add_zero]
          simp only [Bool.false_eq_true, if_false, Option.some.injEq]
          unfold varT
          exact congrArg Tt.t0 e.symm
        · have e : liftR by' (.t0 h) f = varT (h.n + by') := by unfold liftR; rw [if_neg (fun h => h.elim h1 h0), if_pos h2]
          rw [e]
          by_cases h3 : 20000 < h.n + by'
          · rw [if_pos h3, if_pos (by simp [varT, Tt.far, h3])]
          · rw [if_neg h3, if_neg (by simp [varT, Tt.far, h3])]
      · rw [if_neg h2]
        have e : liftR by' (.t0 h) f = .t0 h := by
          unfold liftR
          split
          · rfl
          · first | rfl | rw [if_neg h2]
        rw [e, far_no _ hp]
        simp
  | .t1 h a, f, hp, hc => by
    have ca : a.cnt ≤ 20000 := by simp only [Tt.cnt] at hc; omega
    unfold liftO
    by_cases h1 : (Tt.t1 h a).z.lo ≤ f
    · rw [if_pos h1]
      have e : liftR by' (.t1 h a) f = .t1 h a := by unfold liftR; rw [if_pos (.inl h1)]
      rw [e, far_no _ hp]
      simp
    · rw [if_neg h1, lift_both by' a _ hp.2 ca]
      have e : liftR by' (.t1 h a) f = .t1 h (liftR by' a (f + bindN h.k 0)) := by
        by_cases h0 : by' = 0
        · subst h0; rw [liftR_zero, liftR_zero]
        · conv => lhs; unfold liftR
          rw [if_neg (fun h => h.elim h1 h0)]
      have hs : sizedT (.t1 h (liftR by' a (f + bindN h.k 0))) = some (.t1 h (liftR by' a (f + bindN h.k 0))) := by
        unfold sizedT; rw [if_pos (by simp only [Tt.cnt, liftR_cnt] at hc ⊢; omega)]
      rw [e]
      have hk := hp.1.2 (by omega)
      cases ha : (liftR by' a (f + bindN h.k 0)).far <;> simp [Tt.far, hk, ha, hs]
  | .t2 h a b, f, hp, hc => by
    have ca : a.cnt ≤ 20000 := by simp only [Tt.cnt] at hc; omega
    have cb : b.cnt ≤ 20000 := by simp only [Tt.cnt] at hc; omega
    unfold liftO
    by_cases h1 : (Tt.t2 h a b).z.lo ≤ f
    · rw [if_pos h1]
      have e : liftR by' (.t2 h a b) f = .t2 h a b := by unfold liftR; rw [if_pos (.inl h1)]
      rw [e, far_no _ hp]
      simp
    · rw [if_neg h1, lift_both by' a _ hp.2.1 ca, lift_both by' b _ hp.2.2 cb]
      have e : liftR by' (.t2 h a b) f = .t2 h (liftR by' a (f + bindN h.k 0)) (liftR by' b (f + bindN h.k 1)) := by
        by_cases h0 : by' = 0
        · subst h0; rw [liftR_zero, liftR_zero, liftR_zero]
        · conv => lhs; unfold liftR
          rw [if_neg (fun h => h.elim h1 h0)]
      have hs : sizedT (.t2 h (liftR by' a (f + bindN h.k 0)) (liftR by' b (f + bindN h.k 1))) = some (.t2 h (liftR by' a (f + bindN h.k 0)) (liftR by' b (f + bindN h.k 1))) := by
        unfold sizedT; rw [if_pos (by simp only [Tt.cnt, liftR_cnt] at hc ⊢; omega)]
      rw [e]
      have hk := hp.1.2 (by omega)
      cases ha : (liftR by' a (f + bindN h.k 0)).far <;> cases hb : (liftR by' b (f + bindN h.k 1)).far <;> simp [Tt.far, hk, ha, hb, hs]
  | .t3 h a b c, f, hp, hc => by
    have ca : a.cnt ≤ 20000 := by simp only [Tt.cnt] at hc; omega
    have cb : b.cnt ≤ 20000 := by simp only [Tt.cnt] at hc; omega
    have cc : c.cnt ≤ 20000 := by simp only [Tt.cnt] at hc; omega
    unfold liftO
    by_cases h1 : (Tt.t3 h a b c).z.lo ≤ f
    · rw [if_pos h1]
      have e : liftR by' (.t3 h a b c) f = .t3 h a b c := by unfold liftR; rw [if_pos (.inl h1)]
      rw [e, far_no _ hp]
      simp
    · rw [if_neg h1, lift_both by' a _ hp.2.1 ca, lift_both by' b _ hp.2.2.1 cb, lift_both by' c _ hp.2.2.2 cc]
      have e : liftR by' (.t3 h a b c) f = .t3 h (liftR by' a (f + bindN h.k 0)) (liftR by' b (f + bindN h.k 1)) (liftR by' c (f + bindN h.k 2)) := by
        by_cases h0 : by' = 0
        · subst h0; rw [liftR_zero, liftR_zero, liftR_zero, liftR_zero]
        · conv => lhs; unfold liftR
          rw [if_neg (fun h => h.elim h1 h0)]
      have hs : sizedT (.t3 h (liftR by' a (f + bindN h.k 0)) (liftR by' b (f + bindN h.k 1)) (liftR by' c (f + bindN h.k 2))) = some (.t3 h (liftR by' a (f + bindN h.k 0)) (liftR by' b (f + bindN h.k 1)) (liftR by' c (f + bindN h.k 2))) := by
        unfold sizedT; rw [if_pos (by simp only [Tt.cnt, liftR_cnt] at hc ⊢; omega)]
      rw [e]
      have hk := hp.1.2 (by omega)
      cases ha : (liftR by' a (f + bindN h.k 0)).far <;> cases hb : (liftR by' b (f + bindN h.k 1)).far <;> cases hcc : (liftR by' c (f + bindN h.k 2)).far <;> simp [Tt.far, hk, ha, hb, hcc, hs]
end Go.Proofs.YtjkkojefpecbfaaGreat

/- Which node of the specification's trees stands for which tree. No program is walked here. -/
namespace Go.Proofs.YtjkkojefpecbfaaGreat

theorem all_mono {P R : Hd → Nat → Prop} (h : ∀ x c, P x c → R x c) : ∀ {T : Tt}, T.all P → T.all R
  | .t0 _, hp => h _ _ hp
  | .t1 _ _, hp => ⟨h _ _ hp.1, all_mono h hp.2⟩
  | .t2 _ _ _, hp => ⟨h _ _ hp.1, all_mono h hp.2.1, all_mono h hp.2.2⟩
  | .t3 _ _ _ _, hp => ⟨h _ _ hp.1, all_mono h hp.2.1, all_mono h hp.2.2.1, all_mono h hp.2.2.2⟩
theorem node_var (h : Hd) (c : Nat) (hp : nodeP h c) : varP h c := by
  obtain ⟨h1, h2⟩ := hp
  refine ⟨fun e => ?_, fun hc e => ?_⟩
  · have hn := num_of h2 e
    have hn : 0 ≤ h.n ∧ h.n ≤ 20000 := hn
    refine ⟨hn.2, ?_⟩
    obtain ⟨k, n, m, s, lv⟩ := h
    simp only at e hn
    subst e
    simp only [tfieldsB, Bool.and_eq_true] at h2
    obtain ⟨⟨⟨_, hm⟩, hs⟩, hl⟩ := h2
    have hm0 : m = 0 := by
      have h3 : 0 ≤ m ∧ m ≤ gM 1 := by
        simp only [modeB, Bool.and_eq_true] at hm
        exact ⟨of_decide_eq_true hm.1, of_decide_eq_true hm.2⟩
      have : gM 1 = 0 := by decide
      omega
    have hl0 : lv = [] := by
      have h3 : (lv.length : Int) ≤ mostL 1 := by
        simp only [tlevB, Bool.and_eq_true] at hl
        exact of_decide_eq_true hl.1.2
      have : mostL 1 = 0 := by decide
      exact List.eq_nil_of_length_eq_zero (by omega)
    have hs0 : s = ⟨#[]⟩ := by
      have h3 : s.toList = [] := by simpa [tnameB, Hd.td, bindsB] using hs
      rw [ByteArray.toList_eq] at h3
      obtain ⟨⟨x⟩⟩ := s
      simp at h3
      rw [h3]
    rw [hm0, hl0, hs0]
  · rw [e] at h1
    have : tkidsN 1 = 0 := by decide
    omega
theorem at_some {ts : List Td} {i : Nat} {t : Td} (h : ts[i]? = some t) : ∃ hi : i < ts.length, ts[i] = t := List.getElem?_eq_some_iff.1 h
theorem zi_at {ts : List Td} {x y : Nat} (hy : 1 ≤ y) : zI (Zt ts) (((x + y : Nat) : Int) - 1) = zI (Zt ts) ((x + y - 1 : Nat) : Int) := by
  congr 1
  omega
/-- What is kept of a node is what its tree's root keeps. -/
theorem zt_is {ts : List Td} (hk : KidsIn ts ts.length) : ∀ (T : Tt) (o : Nat), (∀ j, j < (T.flat o).length → ts[o + j]? = (T.flat o)[j]?) → zI (Zt ts) ((o + T.cnt - 1 : Nat) : Int) = T.z
  | .t0 h, o, hs => by
    obtain ⟨hi, e⟩ := at_some (hs 0 (by simp [Tt.flat]))
    have hz := zt_eq ts o hi (hk o hi hi)
    rw [show ts[o] = h.td [] from e] at hz
    exact hz
  | .t1 h a, o, hs => by
    simp only [Tt.flat] at hs
    have ha := zt_is hk a o (sub_left hs)
    have hl := sub_right hs 0 (by simp)
    rw [a.flat_len] at hl
    obtain ⟨hi, e⟩ := at_some hl
    have hz := zt_eq ts (o + a.cnt) hi (hk _ hi hi)
    rw [show ts[o + a.cnt] = h.td [((o + a.cnt : Nat) : Int) - 1] from e] at hz
    simp only [Hd.td, List.map_cons, List.map_nil] at hz
    rw [zi_at a.cnt_pos, ha] at hz
    exact hz
  | .t2 h a b, o, hs => by
    simp only [Tt.flat] at hs
    have hab := sub_left hs
    have ha := zt_is hk a o (sub_left hab)
    have hb := sub_right hab
    rw [a.flat_len] at hb
    have hb := zt_is hk b (o + a.cnt) hb
    have hl := sub_right hs 0 (by simp)
    rw [List.length_append, a.flat_len, b.flat_len, ← Nat.add_assoc] at hl
    obtain ⟨hi, e⟩ := at_some hl
    have hz := zt_eq ts (o + a.cnt + b.cnt) hi (hk _ hi hi)
    rw [show ts[o + a.cnt + b.cnt] = h.td [((o + a.cnt : Nat) : Int) - 1, ((o + a.cnt + b.cnt : Nat) : Int) - 1] from e] at hz
    simp only [Hd.td, List.map_cons, List.map_nil] at hz
    rw [zi_at a.cnt_pos, zi_at b.cnt_pos, ha, hb] at hz
    rw [show o + (Tt.t2 h a b).cnt - 1 = o + a.cnt + b.cnt by simp only [Tt.cnt]; omega]
    exact hz
  | .t3 h a b d, o, hs => by
    simp only [Tt.flat] at hs
    have habd := sub_left hs
    have hab := sub_left habd
    have ha := zt_is hk a o (sub_left hab)
    have hb := sub_right hab
    have hd := sub_right habd
    rw [a.flat_len] at hb
    rw [List.length_append, a.flat_len, b.flat_len, ← Nat.add_assoc] at hd
    have hb := zt_is hk b (o + a.cnt) hb
    have hd := zt_is hk d (o + a.cnt + b.cnt) hd
    have hl := sub_right hs 0 (by simp)
    rw [List.length_append, List.length_append, a.flat_len, b.flat_len, d.flat_len, ← Nat.add_assoc, ← Nat.add_assoc] at hl
    obtain ⟨hi, e⟩ := at_some hl
    have hz := zt_eq ts (o + a.cnt + b.cnt + d.cnt) hi (hk _ hi hi)
    rw [show ts[o + a.cnt + b.cnt + d.cnt] = h.td [((o + a.cnt : Nat) : Int) - 1, ((o + a.cnt + b.cnt : Nat) : Int) - 1, ((o + a.cnt + b.cnt + d.cnt : Nat) : Int) - 1] from e] at hz
    simp only [Hd.td, List.map_cons, List.map_nil] at hz
    rw [zi_at a.cnt_pos, zi_at b.cnt_pos, zi_at d.cnt_pos, ha, hb, hd] at hz
    rw [show o + (Tt.t3 h a b d).cnt - 1 = o + a.cnt + b.cnt + d.cnt by simp only [Tt.cnt]; omega]
    exact hz
/-- A node of the specification's stands for a tree. -/
def SpT (Q : Nat → Prop) (w : World) : Tt → Nat → Prop
  | .t0 h, p => FnAt Q w p (h.td []) [] (Tt.t0 h).z
  | .t1 h a, p => ∃ pa, SpT Q w a pa ∧ FnAt Q w p (h.td []) [pa] (Tt.t1 h a).z
  | .t2 h a b, p => ∃ pa pb, SpT Q w a pa ∧ SpT Q w b pb ∧ FnAt Q w p (h.td []) [pa, pb] (Tt.t2 h a b).z
  | .t3 h a b c, p => ∃ pa pb pc, SpT Q w a pa ∧ SpT Q w b pb ∧ SpT Q w c pc ∧ FnAt Q w p (h.td []) [pa, pb, pc] (Tt.t3 h a b c).z
theorem forest_at {Q : Nat → Prop} {w : World} {pt : Nat → Nat} {ts : List Td} (F : Forest Q w pt ts ts.length) {i : Nat} {t : Td} (h : ts[i]? = some t) : FnAt Q w (pt i) t (t.kids.map (fun c => pt c.toNat)) (zI (Zt ts) (i : Int)) := by
  obtain ⟨hi, e⟩ := at_some h
  have := F i hi hi
  rw [e] at this
  exact this
theorem fn_td {Q : Nat → Prop} {w : World} {p : Nat} {h : Hd} {ks : List Int} {kp : List Nat} {z : Zs} (hf : FnAt Q w p (h.td ks) kp z) : FnAt Q w p (h.td []) kp z := hf
theorem forest_is {Q : Nat → Prop} {w : World} {pt : Nat → Nat} {ts : List Td} (hk : KidsIn ts ts.length) (F : Forest Q w pt ts ts.length) : ∀ (T : Tt) (o : Nat), (∀ j, j < (T.flat o).length → ts[o + j]? = (T.flat o)[j]?) → SpT Q w T (pt (o + T.cnt - 1))
  | .t0 h, o, hs => by
    have hf := forest_at F (hs 0 (by simp [Tt.flat]))
    have hz := zt_is hk (.t0 h) o hs
    have hf : FnAt Q w (pt o) (h.td []) [] (zI (Zt ts) (o : Int)) := hf
    have hz : zI (Zt ts) (o : Int) = (Tt.t0 h).z := hz
    rw [hz] at hf
    exact hf
  | .t1 h a, o, hs => by
    have hz := zt_is hk (.t1 h a) o hs
    simp only [Tt.flat] at hs
    have hl := sub_right hs 0 (by simp)
    rw [a.flat_len] at hl
    have hf := fn_td (forest_at F hl)
    simp only [Hd.td, List.map_cons, List.map_nil] at hf
    rw [pt_at (pt := pt) a.cnt_pos] at hf
    rw [show o + (Tt.t1 h a).cnt - 1 = o + a.cnt by simp only [Tt.cnt]; omega] at hz ⊢
    refine ⟨_, forest_is hk F a o (sub_left hs), ?_⟩
    have hf : FnAt Q w (pt (o + a.cnt)) (h.td []) [pt (o + a.cnt - 1)] (zI (Zt ts) ((o + a.cnt : Nat) : Int)) := hf
    rw [hz] at hf
    exact hf
  | .t2 h a b, o, hs => by
    have hz := zt_is hk (.t2 h a b) o hs
    simp only [Tt.flat] at hs
    have hab := sub_left hs
    have hb := sub_right hab
    rw [a.flat_len] at hb
    have hl := sub_right hs 0 (by simp)
    rw [List.length_append, a.flat_len, b.flat_len, ← Nat.add_assoc] at hl
    have hf := fn_td (forest_at F hl)
    simp only [Hd.td, List.map_cons, List.map_nil] at hf
    rw [pt_at (pt := pt) a.cnt_pos, pt_at (pt := pt) b.cnt_pos] at hf
    rw [show o + (Tt.t2 h a b).cnt - 1 = o + a.cnt + b.cnt by simp only [Tt.cnt]; omega] at hz ⊢
    refine ⟨_, _, forest_is hk F a o (sub_left hab), forest_is hk F b (o + a.cnt) hb, ?_⟩
    have hf : FnAt Q w (pt (o + a.cnt + b.cnt)) (h.td []) [pt (o + a.cnt - 1), pt (o + a.cnt + b.cnt - 1)] (zI (Zt ts) ((o + a.cnt + b.cnt : Nat) : Int)) := hf
    rw [hz] at hf
    exact hf
  | .t3 h a b d, o, hs => by
    have hz := zt_is hk (.t3 h a b d) o hs
    simp only [Tt.flat] at hs
    have habd := sub_left hs
    have hab := sub_left habd
    have hb := sub_right hab
    have hd := sub_right habd
    rw [a.flat_len] at hb
    rw [List.length_append, a.flat_len, b.flat_len, ← Nat.add_assoc] at hd
    have hl := sub_right hs 0 (by simp)
    rw [List.length_append, List.length_append, a.flat_len, b.flat_len, d.flat_len, ← Nat.add_assoc, ← Nat.add_assoc] at hl
    have hf := fn_td (forest_at F hl)
    simp only [Hd.td, List.map_cons, List.map_nil] at hf
    rw [pt_at (pt := pt) a.cnt_pos, pt_at (pt := pt) b.cnt_pos, pt_at (pt := pt) d.cnt_pos] at hf
    rw [show o + (Tt.t3 h a b d).cnt - 1 = o + a.cnt + b.cnt + d.cnt by simp only [Tt.cnt]; omega] at hz ⊢
    refine ⟨_, _, _, forest_is hk F a o (sub_left hab), forest_is hk F b (o + a.cnt) hb, forest_is hk F d (o + a.cnt + b.cnt) hd, ?_⟩
    have hf : FnAt Q w (pt (o + a.cnt + b.cnt + d.cnt)) (h.td []) [pt (o + a.cnt - 1), pt (o + a.cnt + b.cnt - 1), pt (o + a.cnt + b.cnt + d.cnt - 1)] (zI (Zt ts) ((o + a.cnt + b.cnt + d.cnt : Nat) : Int)) := hf
    rw [hz] at hf
    exact hf
/-- The root that l3Tree answers stands for the term's tree. -/
theorem forest_root {Q : Nat → Prop} {w : World} {pt : Nat → Nat} {ts : List Td} (hk : KidsIn ts ts.length) (F : Forest Q w pt ts ts.length) {T : Tt} (hT : T.flat 0 = ts) : SpT Q w T (pt (ts.length - 1)) := by
  have h := forest_is hk F T 0 (fun j _ => by rw [hT, Nat.zero_add])
  have hc : T.cnt = ts.length := by rw [← T.flat_len 0, hT]
  rw [hc, Nat.zero_add] at h
  exact h
end Go.Proofs.YtjkkojefpecbfaaGreat
