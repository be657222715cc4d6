/- A declaration in memory, and what szDecl and what it calls answer. -/
import Derived.Test.YtpmpooekpeocdaaGreatTQ
import Derived.Test.YtpmpooekpeocdaaGreatStrO
import Derived.Test.YtpmpooekpeocdaaGreatStrS
namespace Go.Proofs.YtpmpooekpeocdaaGreat
open Go.ChangeShapes Go.WideShapes Go.ChangeAt Go.RowKit

/-- A constructor: its name and its type's nodes. -/
structure Ct where
  s : ByteArray
  t : List Td
/-- A declaration. -/
structure Dc where
  k : Int
  s : ByteArray
  ps : List ByteArray
  t : List Td
  v : List Td
  f : Int
  cs : List Ct
def CtorsAt (w : World) (v : Value) (cs : List Ct) : Prop :=
  ∃ a cap, v = .slice a cs.length cap ∧ cs.length ≤ cap ∧ cap ≤ maxLen ∧
    (0 < cs.length → ∃ b off, a = some ⟨b, off, none⟩ ∧ ∀ i (h : i < cs.length), w.cell? ⟨b, off + i * 2, none⟩ = some (.string cs[i].s) ∧ ∃ u, w.cell? ⟨b, off + i * 2 + 1, none⟩ = some u ∧ TNodesAt w u cs[i].t)
theorem CtorsAt.keep {w w' : World} {v : Value} {cs : List Ct} (h : CtorsAt w v cs) (hb : Below w.heap.size w w') : CtorsAt w' v cs := by
  obtain ⟨a, cap, h1, h2, h3, h4⟩ := h
  refine ⟨a, cap, h1, h2, h3, fun h0 => ?_⟩
  obtain ⟨b, off, h5, h6⟩ := h4 h0
  refine ⟨b, off, h5, fun i hi => ?_⟩
  obtain ⟨q1, u, q2, q3⟩ := h6 i hi
  exact ⟨keep_cell hb q1, u, keep_cell hb q2, q3.keep hb⟩
theorem CtorsAt.form {w : World} {v : Value} {cs : List Ct} (h : CtorsAt w v cs) : ∃ a cap, v = .slice a cs.length cap := by obtain ⟨a, cap, h1, _⟩ := h; exact ⟨a, cap, h1⟩
theorem TNodesAt.form {w : World} {v : Value} {ts : List Td} (h : TNodesAt w v ts) : ∃ a cap, v = .slice a ts.length cap := by obtain ⟨a, cap, h1, _⟩ := h; exact ⟨a, cap, h1⟩
/-- The seven values of a declaration. -/
structure DeclAt (w : World) (pv tv vv cv : Value) (d : Dc) : Prop where
  ps : StrsAt w pv d.ps
  t : TNodesAt w tv d.t
  v : TNodesAt w vv d.v
  cs : CtorsAt w cv d.cs
theorem DeclAt.keep {w w' : World} {pv tv vv cv : Value} {d : Dc} (h : DeclAt w pv tv vv cv d) (hb : Below w.heap.size w w') : DeclAt w' pv tv vv cv d := ⟨h.ps.keep hb, h.t.keep hb, h.v.keep hb, h.cs.keep hb⟩
/-- A declaration's value. -/
def declV (d : Dc) (pv tv vv cv : Value) : Value := .agg #[.int .i64 d.k, .string d.s, pv, tv, vv, .int .i64 d.f, cv]
/-- No text in it is too long for a string. -/
def CtLens (c : Ct) : Prop := c.s.size ≤ maxLen ∧ ∀ td ∈ c.t, TLens td
structure DcLens (d : Dc) : Prop where
  s : d.s.size ≤ maxLen
  ps : ∀ s ∈ d.ps, s.size ≤ maxLen
  t : ∀ td ∈ d.t, TLens td
  v : ∀ td ∈ d.v, TLens td
  cs : ∀ c ∈ d.cs, CtLens c
def ctSize (c : Ct) : Nat := c.s.size + tmSize c.t
def dcSize (d : Dc) : Nat := d.s.size + (d.ps.length + strSum d.ps) + tmSize d.t + tmSize d.v + (d.cs.length + sumL ctSize d.cs)

set_option maxHeartbeats 1000000 in
theorem szCtor_any (c : Ct) (tv : Value) (left : Int) (w : World) (hs : CtLens c) (ht : TNodesAt w tv c.t) (h0 : 0 ≤ left) (h1 : left ≤ 1048576) :
    Calls Tryz.prog 70 #[.agg #[.string c.s, tv], .int .i64 left] w fun e w' => e = .returned (.int .i64 (leftOf left (ctSize c))) ∧ Below w.heap.size w w' := by
  obtain ⟨hs1, hs2⟩ := hs
  unfold maxLen at hs1
  have HS2 := hide hs2
  clear hs2
  have HT : Hid (∀ o, TNodesAt (w.alloc o) tv c.t) := fun o => ht.keep (((Below.refl w.heap.size w).alloc (Nat.le_refl _) o))
  obtain ⟨ta, tc, rfl⟩ := ht.form
  by_cases h : left < c.s.size
  · go_enter Tryz.func70, Tryz.ntmps70
    go_wp2_with fail
    go_ret
    exact ⟨ret_int (by rw [leftOf, if_pos (by unfold ctSize; omega)]), (Below.refl _ _).alloc (Nat.le_refl _) _⟩
  obtain ⟨L, hL⟩ : ∃ L : Int, left - c.s.size = L := ⟨_, rfl⟩
  have hL0 : 0 ≤ L := by omega
  have hL1 : L ≤ 1048576 := by omega
  have d0 : decide (L < 0) = false := by simp; omega
  have hwL : IntKind.i64.wrap L = L := by rw [IntKind.wrap_i64]; omega
  by_cases h2 : L < (tmSize c.t : Nat)
  · have HL : Hid (leftOf L (tmSize c.t) = -1) := leftOf_neg h2
    have HF : Hid (leftOf left (ctSize c) = -1) := leftOf_neg (by unfold ctSize; omega)
    rw [HF.out]
    clear h h2
    go_enter Tryz.func70, Tryz.ntmps70
    go_wp2_with (go_at_call 35; refine (szTerm_any _ c.t _ _ (HT.out _) HS2.out hL0 hL1).mono ?_; rintro e w1 ⟨rfl, hb1⟩; rw [HL.out])
    go_ret
    exact ⟨rfl, ((Below.refl _ _).alloc (Nat.le_refl _) _).trans (hb1.mono (by simp))⟩
  obtain ⟨M, hM⟩ : ∃ M : Int, M = L - (tmSize c.t : Nat) := ⟨_, rfl⟩
  have HL : Hid (leftOf L (tmSize c.t) = M) := by show _ = _; rw [leftOf_pos h2, hM]
  have HF : Hid (leftOf left (ctSize c) = M) := by show _ = _; rw [leftOf_pos (by unfold ctSize; omega)]; unfold ctSize; omega
  have hM0 : 0 ≤ M := by omega
  rw [HF.out]
  clear h h2 hM
  go_enter Tryz.func70, Tryz.ntmps70
  go_wp2_with (go_at_call 35; refine (szTerm_any _ c.t _ _ (HT.out _) HS2.out hL0 hL1).mono ?_; rintro e w1 ⟨rfl, hb1⟩; rw [HL.out])
  go_ret
  exact ⟨rfl, ((Below.refl _ _).alloc (Nat.le_refl _) _).trans (hb1.mono (by simp))⟩

set_option maxHeartbeats 1000000 in
theorem szCtorS_any (v : Value) (cs : List Ct) (left : Int) (w : World) (hns : CtorsAt w v cs) (hsz : ∀ c ∈ cs, CtLens c) (h0 : 0 ≤ left) (h1 : left ≤ 1048576) :
    Calls Tryz.prog 36 #[v, .int .i64 left] w fun e w' => e = .returned (.int .i64 (leftOf left (cs.length + sumL ctSize cs))) ∧ Below w.heap.size w w' := by
  obtain ⟨a, cap, rfl, hlc, hcm, hnode⟩ := hns
  unfold maxLen at hcm
  by_cases h : left < cs.length
  · go_enter Tryz.func36, Tryz.ntmps36
    go_wp2_with fail
    go_ret
    exact ⟨ret_int (by rw [leftOf, if_pos (by omega)]), Below.refl _ _⟩
  have HN : Hid (0 < cs.length → ∃ b off, a = some ⟨b, off, none⟩ ∧ ∀ i (h : i < cs.length), w.cell? ⟨b, off + i * 2, none⟩ = some (.string cs[i].s) ∧ ∃ u, w.cell? ⟨b, off + i * 2 + 1, none⟩ = some u ∧ TNodesAt w u cs[i].t) := hnode
  have HZ : Hid (∀ c ∈ cs, CtLens c) := hsz
  have d0 : decide (left - (cs.length : Int) < 0) = false := by simp; omega
  clear hnode hsz
  go_enter Tryz.func36, Tryz.ntmps36
  go_wp2_with fail
  go_loopw [1, 5] (fun l i wr => ∃ k : Nat, k ≤ cs.length ∧ i = .int .i64 k ∧ (sumL ctSize (cs.take k) : Int) ≤ left - cs.length ∧ l = .int .i64 (left - cs.length - sumL ctSize (cs.take k)) ∧ Below w.heap.size w wr) (fun _ i _ => cs.length - (intOf i).toNat)
  case atStart => exact ⟨0, by omega, rfl, by simp [sumL]; omega, by simp [sumL], Below.refl _ _⟩
  case round =>
    obtain ⟨k, hk, rfl, hsum, rfl, hbel⟩ := hrel
    by_cases hlt : k < cs.length
    · obtain ⟨b, off, ha, hc⟩ := HN.out (by omega)
      subst ha
      obtain ⟨c1, tv, c2, htv⟩ := hc k hlt
      have hsnoc := sumL_snoc ctSize cs k hlt
      have hsl := HZ.out cs[k] (by simp)
      have hle := sumL_le ctSize cs (k + 1)
      generalize cs[k] = c at *
      have c1' := keep_cell hbel c1
      have c2' := keep_cell hbel c2
      have HTV := hide (htv.keep hbel)
      have HSL := hide hsl
      have HS : Hid (sumL ctSize (cs.take (k + 1)) = sumL ctSize (cs.take k) + ctSize c) := hsnoc
      clear hsnoc hc c1 c2 hsl
      obtain ⟨ta, tc, rfl⟩ := htv.form
      clear htv
      obtain ⟨L, hL⟩ : ∃ L : Int, L = left - cs.length - sumL ctSize (cs.take k) := ⟨_, rfl⟩
      rw [← hL]
      have hL0 : 0 ≤ L := by omega
      have hL1 : L ≤ 1048576 := by omega
      have HLL : Hid (L = left - cs.length - sumL ctSize (cs.take k)) := hL
      clear hL
      by_cases h3 : L < (ctSize c : Nat)
      · have HL : Hid (leftOf L (ctSize c) = -1) := leftOf_neg h3
        have HH3 := hide h3
        clear h3
        go_wp2_with (go_at_call 70; refine (szCtor_any c _ _ _ HSL.out HTV.out hL0 hL1).mono ?_; rintro e w' ⟨rfl, hb2⟩; rw [HL.out])
        go_ret
        have := HLL.out; have := HS.out; have := HH3.out
        exact ⟨ret_int (by rw [leftOf, if_pos (by omega)]), hbel.trans (hb2.mono hbel.size)⟩
      · obtain ⟨M, hM⟩ : ∃ M : Int, M = L - (ctSize c : Nat) := ⟨_, rfl⟩
        have HL : Hid (leftOf L (ctSize c) = M) := by show _ = _; rw [leftOf_pos h3, hM]
        have hge : 0 ≤ M := by omega
        have HM := hide hM
        clear h3 hM
        go_wp2_with (go_at_call 70; refine (szCtor_any c _ _ _ HSL.out HTV.out hL0 hL1).mono ?_; rintro e w' ⟨rfl, hb2⟩; rw [HL.out])
        go_roundw
        case rel =>
          have := HLL.out; have := HS.out; have := HM.out
          exact ⟨k + 1, by omega, by go_num, by omega, by rw [show M = left - cs.length - sumL ctSize (cs.take (k + 1)) from by omega], hbel.trans (hb2.mono hbel.size)⟩
        case measure => simp [intOf]; omega
    · have hke : cs.take k = cs := List.take_of_length_le (by omega)
      rw [hke] at hsum ⊢
      clear hke
      go_wp2_with fail
      go_ret
      exact ⟨ret_int (by rw [leftOf, if_neg (by omega)]; omega), hbel⟩
set_option maxRecDepth 20000 in
set_option maxHeartbeats 2000000 in
theorem szDecl_any (d : Dc) (pv tv vv cv : Value) (left : Int) (w : World) (hz : DcLens d) (hd : DeclAt w pv tv vv cv d) (h0 : 0 ≤ left) (h1 : left ≤ 1048576) :
    Calls Tryz.prog 10 #[declV d pv tv vv cv, .int .i64 left] w fun e w' => e = .returned (.int .i64 (leftOf left (dcSize d))) ∧ Below w.heap.size w w' := by
  have hs1 := hz.s
  unfold maxLen at hs1
  have HZ := hide hz
  clear hz
  obtain ⟨F, hF⟩ : ∃ F, F = leftOf left (dcSize d) := ⟨_, rfl⟩
  rw [← hF]
  have HF := hide hF
  clear hF
  obtain ⟨pa, pc, hpv⟩ : ∃ a c, pv = .slice a d.ps.length c := by obtain ⟨a, c, h, _⟩ := hd.ps; exact ⟨a, c, h⟩
  obtain ⟨ta, tc, htv⟩ := hd.t.form
  obtain ⟨va, vc, hvv⟩ := hd.v.form
  obtain ⟨ca, cc, hcv⟩ := hd.cs.form
  subst hpv htv hvv hcv
  obtain ⟨W, hW⟩ : ∃ W, W = w.alloc (.cells #[.int .i64 d.k, .string d.s, .slice pa d.ps.length pc, .slice ta d.t.length tc, .slice va d.v.length vc, .int .i64 d.f, .slice ca d.cs.length cc] 28) := ⟨_, rfl⟩
  have hbW : Below w.heap.size w W := by rw [hW]; exact bel_alloc (Below.refl _ _) _
  have HD := hide (hd.keep hbW)
  have c1 : W.cell? ⟨w.heap.size, 1, none⟩ = some (.string d.s) := by rw [hW]; simp [go_sem]
  have c2 : W.cell? ⟨w.heap.size, 2, none⟩ = some (.slice pa d.ps.length pc) := by rw [hW]; simp [go_sem]
  have c3 : W.cell? ⟨w.heap.size, 3, none⟩ = some (.slice ta d.t.length tc) := by rw [hW]; simp [go_sem]
  have c4 : W.cell? ⟨w.heap.size, 4, none⟩ = some (.slice va d.v.length vc) := by rw [hW]; simp [go_sem]
  have c6 : W.cell? ⟨w.heap.size, 6, none⟩ = some (.slice ca d.cs.length cc) := by rw [hW]; simp [go_sem]
  have l1 := lt_cell c1
  have HBW := hide hbW
  clear hd hbW
  unfold declV
  go_enter Tryz.func10, Tryz.ntmps10
  go_upto_region 1 with fail
  rw [← hW]
  clear hW
  by_cases h : left < d.s.size
  · have hF : F = -1 := by rw [HF.out, leftOf_neg (by unfold dcSize; omega)]
    subst hF
    go_wp2_with fail
    go_ret
    exact ⟨rfl, HBW.out⟩
  obtain ⟨L, hL⟩ : ∃ L : Int, left - d.s.size = L := ⟨_, rfl⟩
  have hL0 : 0 ≤ L := by omega
  have hL1 : L ≤ 1048576 := by omega
  have d0 : decide (L < 0) = false := by simp; omega
  have hwL : IntKind.i64.wrap L = L := by rw [IntKind.wrap_i64]; omega
  have HL1 : Hid (L = left - d.s.size) := hL.symm
  have HC1 := hide (szStringS_any _ d.ps L W HD.out.ps HZ.out.ps hL0 hL1)
  clear h
  go_wp2_with fail
  refine HC1.out.mono ?_
  rintro e w1 ⟨rfl, rfl⟩
  by_cases h2 : L < (d.ps.length + strSum d.ps : Nat)
  · rw [leftOf_neg h2]
    have hF : F = -1 := by rw [HF.out, leftOf_neg (by have := HL1.out; unfold dcSize; omega)]
    subst hF
    clear h2 hL
    go_wp2_with fail
    go_ret
    exact ⟨rfl, HBW.out⟩
  obtain ⟨M, hM⟩ : ∃ M : Int, M = L - (d.ps.length + strSum d.ps : Nat) := ⟨_, rfl⟩
  rw [leftOf_pos h2, ← hM]
  have hM0 : 0 ≤ M := by omega
  have hM1 : M ≤ 1048576 := by omega
  have dM : decide (M < 0) = false := by simp; omega
  have HL2 := hide hM
  have HC2 := hide (szTerm_any _ d.t M w1 HD.out.t HZ.out.t hM0 hM1)
  clear h2 hM hL HC1 d0 hwL
  go_wp2_with fail
  refine HC2.out.mono ?_
  rintro e w2 ⟨rfl, hb2⟩
  have c4 := keep_cell hb2 c4
  have c6 := keep_cell hb2 c6
  have l4 := lt_cell c4
  have HD2 := hide (HD.out.keep hb2)
  have HB2 := hide (HBW.out.trans (hb2.mono (by have := HBW.out.size; omega)))
  have hs2 := hb2.size
  clear hb2 HC2
  by_cases h3 : M < (tmSize d.t : Nat)
  · rw [leftOf_neg h3]
    have hF : F = -1 := by rw [HF.out, leftOf_neg (by have := HL1.out; have := HL2.out; unfold dcSize; omega)]
    subst hF
    clear h3
    go_wp2_with fail
    go_ret
    exact ⟨rfl, HB2.out⟩
  obtain ⟨Q, hQ⟩ : ∃ Q : Int, Q = M - (tmSize d.t : Nat) := ⟨_, rfl⟩
  rw [leftOf_pos h3, ← hQ]
  have hQ0 : 0 ≤ Q := by omega
  have hQ1 : Q ≤ 1048576 := by omega
  have dQ : decide (Q < 0) = false := by simp; omega
  have HL3 := hide hQ
  have HC3 := hide (szTerm_any _ d.v Q w2 HD2.out.v HZ.out.v hQ0 hQ1)
  clear h3 hQ
  go_wp2_with fail
  refine HC3.out.mono ?_
  rintro e w3 ⟨rfl, hb3⟩
  have c6 := keep_cell hb3 c6
  have l6 := lt_cell c6
  have HD3 := hide (HD2.out.keep hb3)
  have HB3 := hide (HB2.out.trans (hb3.mono (by have := HB2.out.size; omega)))
  have hs3 := hb3.size
  clear hb3 HC3
  by_cases h4 : Q < (tmSize d.v : Nat)
  · rw [leftOf_neg h4]
    have hF : F = -1 := by rw [HF.out, leftOf_neg (by have := HL1.out; have := HL2.out; have := HL3.out; unfold dcSize; omega)]
    subst hF
    clear h4
    go_wp2_with fail
    go_ret
    exact ⟨rfl, HB3.out⟩
  obtain ⟨X, hX⟩ : ∃ X : Int, X = Q - (tmSize d.v : Nat) := ⟨_, rfl⟩
  rw [leftOf_pos h4, ← hX]
  have hX0 : 0 ≤ X := by omega
  have hX1 : X ≤ 1048576 := by omega
  have dX : decide (X < 0) = false := by simp; omega
  have HL4 := hide hX
  have HC4 := hide (szCtorS_any _ d.cs X w3 HD3.out.cs HZ.out.cs hX0 hX1)
  clear h4 hX
  go_wp2_with fail
  refine HC4.out.mono ?_
  rintro e w4 ⟨rfl, hb4⟩
  have HB4 := hide (HB3.out.trans (hb4.mono (by have := HB3.out.size; omega)))
  clear hb4 HC4
  by_cases h5 : X < (d.cs.length + sumL ctSize d.cs : Nat)
  · rw [leftOf_neg h5]
    have hF : F = -1 := by rw [HF.out, leftOf_neg (by have := HL1.out; have := HL2.out; have := HL3.out; have := HL4.out; unfold dcSize; omega)]
    subst hF
    clear h5
    go_wp2_with fail
    go_ret
    exact ⟨rfl, HB4.out⟩
  obtain ⟨Y, hY⟩ : ∃ Y : Int, Y = X - (d.cs.length + sumL ctSize d.cs : Nat) := ⟨_, rfl⟩
  rw [leftOf_pos h5, ← hY]
  have hY0 : 0 ≤ Y := by omega
  have dY : decide (Y < 0) = false := by simp; omega
  have hF : F = Y := by
    have := HL1.out; have := HL2.out; have := HL3.out; have := HL4.out
    rw [HF.out, leftOf_pos (by unfold dcSize; omega)]
    unfold dcSize
    omega
  subst hF
  clear h5 hY
  go_wp2_with fail
  go_ret
  exact ⟨rfl, HB4.out⟩
end Go.Proofs.YtpmpooekpeocdaaGreat

/- What the copying of a term (toTerm, toNodeS) answers: a new term with the same nodes; nothing that was there is written. -/
namespace Go.Proofs.YtpmpooekpeocdaaGreat
open Go.ChangeShapes Go.WideShapes Go.ChangeAt Go.RowKit

theorem Tryz.info166 : (Tryz.prog.info? 166).map (fun i => (i.zero, i.size, i.bytes)) = some (some (.agg #[.int .i64 0, .int .i64 0, .int .i64 0, .string ⟨#[]⟩, .slice none 0 0, .slice none 0 0]), 6, 88) := by kernel_rfl
/-- What is asked of a node that is copied. -/
def TSmall (td : Td) : Prop := td.lv.length ≤ 1048576 ∧ (∀ l ∈ td.lv, l.length ≤ 1048576 ∧ ∀ nd ∈ l, nd.kids.length ≤ 1048576) ∧ td.kids.length ≤ 1048576
end Go.Proofs.YtpmpooekpeocdaaGreat

/- What the copying of a declaration (toDecl, toCtorS, toCtor) answers: a new one with the same parts; nothing that was there is written. -/
namespace Go.Proofs.YtpmpooekpeocdaaGreat
open Go.ChangeShapes Go.WideShapes Go.ChangeAt Go.RowKit

theorem Tryz.info73 : (Tryz.prog.info? 73).map (fun i => (i.zero, i.size, i.bytes)) = some (some (.agg #[.string ⟨#[]⟩, .slice none 0 0]), 2, 40) := by kernel_rfl
def CtSmall (c : Ct) : Prop := c.t.length ≤ 1048576 ∧ ∀ td ∈ c.t, TSmall td
structure DcSmall (d : Dc) : Prop where
  ps : d.ps.length ≤ 1048576
  t : d.t.length ≤ 1048576 ∧ ∀ td ∈ d.t, TSmall td
  v : d.v.length ≤ 1048576 ∧ ∀ td ∈ d.v, TSmall td
  cs : d.cs.length ≤ 1048576 ∧ ∀ c ∈ d.cs, CtSmall c
theorem heap_alloc_atD (w : World) (o : Obj) {k : Nat} (h : k = w.heap.size) : (w.alloc o).heap[k]? = some o := by subst h; exact heap_alloc_new w o
end Go.Proofs.YtpmpooekpeocdaaGreat
