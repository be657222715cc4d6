/- What the program's putLevels answers at its trees: the tree with trees put for parameters. -/
import Derived.Test.YtbgibiongnhjoaaGreatNum
import Derived.Test.YtbgibiongnhjoaaGreatLib
import Derived.Test.YtbgibiongnhjoaaGreatStEx
namespace Go.Proofs.YtbgibiongnhjoaaGreat
open Go.ChangeShapes Go.WideShapes Go.ChangeAt Go.RowKit


set_option maxHeartbeats 1000000 in
theorem succAroundN_any (n : Nat) (x : It) (w : World) (hn : 1 ≤ n) (hc : n + x.cnt ≤ 1000000) : Calls Tryz.prog 196 #[x.val, .int .i64 n] w fun e w' => e = .returned (sAroundN n x).val ∧ Below w.heap.size w w' := by
  have q0 : ((n : Int) == 0) = false := by rw [beq_eq_false_iff_ne]; omega
  cases x with
  | zero =>
    have a1 := Tryz.as152_144
    simp only [It.val, sAroundN]
    clear hc
    go_enter Tryz.func196, Tryz.ntmps196
    go_wp2_with fail
    go_ret
    exact ⟨rfl, bel_alloc (Below.refl _ _) _⟩
  | succ m y =>
    have a1 := Tryz.as144_144
    obtain ⟨T, v, hv⟩ := y.val_iface
    simp only [It.val, sAroundN, hv]
    simp only [It.cnt] at hc
    have hm : (m : Int) ≤ 1000000 := by omega
    have hn' : (n : Int) ≤ 1000000 := by omega
    have hwr : IntKind.i64.wrap ((m : Int) + n) = (m : Int) + n := by rw [IntKind.wrap_i64]; omega
    have HE : Hid (Ending.returned (.iface 242 (.agg #[.int .i64 ((m : Int) + n), .iface T v])) = .returned (.iface 242 (.agg #[.int .i64 ((m + n : Nat) : Int), .iface T v]))) := by show _ = _; simp
    clear hc hv
    go_enter Tryz.func196, Tryz.ntmps196
    go_wp2_with fail
    go_ret
    exact ⟨HE.out, bel_alloc (Below.refl _ _) _⟩
  | max a b =>
    have a1 := Tryz.as146_144
    obtain ⟨Ta, va, ha⟩ := a.val_iface
    obtain ⟨Tb, vb, hb⟩ := b.val_iface
    simp only [It.val, sAroundN, ha, hb]
    clear ha hb hc
    go_enter Tryz.func196, Tryz.ntmps196
    go_wp2_with fail
    go_ret
    exact ⟨rfl, bel_alloc (Below.refl _ _) _⟩
  | imax a b =>
    have a1 := Tryz.as147_144
    obtain ⟨Ta, va, ha⟩ := a.val_iface
    obtain ⟨Tb, vb, hb⟩ := b.val_iface
    simp only [It.val, sAroundN, ha, hb]
    clear ha hb hc
    go_enter Tryz.func196, Tryz.ntmps196
    go_wp2_with fail
    go_ret
    exact ⟨rfl, bel_alloc (Below.refl _ _) _⟩
  | param s =>
    have a1 := Tryz.as149_144
    simp only [It.val, sAroundN]
    clear hc
    go_enter Tryz.func196, Tryz.ntmps196
    go_wp2_with fail
    go_ret
    exact ⟨rfl, bel_alloc (Below.refl _ _) _⟩

theorem put_cnt (f : ByteArray → It) (hf : ∀ s, (f s).cnt ≤ 64) : ∀ x : It, (x.put f).cnt ≤ 64 * x.cnt
  | .zero => by simp [It.put, It.cnt]
  | .succ n x => by have := put_cnt f hf x; simp only [It.put, cnt_aroundN, It.cnt]; omega
  | .max a b => by have := put_cnt f hf a; have := put_cnt f hf b; simp only [It.put, It.cnt]; omega
  | .imax a b => by have := put_cnt f hf a; have := put_cnt f hf b; simp only [It.put, It.cnt]; omega
  | .param s => by have := hf s; simp only [It.put, It.cnt]; omega
/-- No LevelSucc stands around nothing. -/
def It.fine : It → Prop
  | .zero => True
  | .succ n x => 1 ≤ n ∧ x.fine
  | .max a b => a.fine ∧ b.fine
  | .imax a b => a.fine ∧ b.fine
  | .param _ => True
theorem fine_around {x : It} (h : x.fine) : (sAround x).fine := by
  cases x <;> simp_all [sAround, It.fine]
theorem it_fine : ∀ t : Tr, t.it.fine
  | .leaf k s => by by_cases h : k = 1 <;> simp [Tr.it, It.fine, h]
  | .one k s a => fine_around (it_fine a)
  | .two k s a b => by
    by_cases h : k = 3
    · simp only [Tr.it, if_pos h]; exact ⟨it_fine a, it_fine b⟩
    · simp only [Tr.it, if_neg h]; exact ⟨it_fine a, it_fine b⟩

/-- What is said of a call of putLevels at a tree, in the worlds that O lets in. -/
def PutAt (fv : Value) (f : ByteArray → It) (O : World → Prop) (x : It) : Prop :=
  ∀ w, O w → Calls Tryz.prog 168 #[x.val, fv] w fun e w' => e = .returned (x.put f).val ∧ Below w.heap.size w w'

set_option maxHeartbeats 1000000 in
theorem putI_zero (fv : Value) (f : ByteArray → It) (O : World → Prop) : PutAt fv f O .zero := by
  intro w _
  have a1 := Tryz.as152_144
  have a2 := Tryz.as152_146
  have a3 := Tryz.as152_147
  have a4 := Tryz.as152_149
  simp only [It.val, It.put]
  go_enter Tryz.func168, Tryz.ntmps168
  go_wp2_with fail
  go_ret
  exact ⟨rfl, Below.refl _ _⟩

set_option maxHeartbeats 2000000 in
theorem putI_succ (fv : Value) (f : ByteArray → It) (O : World → Prop) (hO : Grows O) (n : Nat) (x : It) (hn : 1 ≤ n) (hc : n + (x.put f).cnt ≤ 1000000) (ih : PutAt fv f O x) : PutAt fv f O (.succ n x) := by
  intro w hw
  have a1 := Tryz.as144_144
  have IH := hide ih
  have HOG := hide hO
  have HW := hide hw
  have HSA := hide (fun W => succAroundN_any n (x.put f) W hn hc)
  simp only [It.val, It.put]
  obtain ⟨T, v, hv⟩ := x.val_iface
  obtain ⟨T2, v2, hv2⟩ := (x.put f).val_iface
  obtain ⟨T3, v3, hv3⟩ := (sAroundN n (x.put f)).val_iface
  unfold PutAt at IH
  rw [hv, hv2] at IH
  rw [hv2, hv3] at HSA
  rw [hv, hv3]
  clear hv hv2 hv3 hw ih hO hc
  go_enter Tryz.func168, Tryz.ntmps168
  go_wp2_with fail
  go_region_held3 (fun w' => w'.cell? ⟨w.heap.size, 0, none⟩ = some (.int .i64 n) ∧ w'.cell? ⟨w.heap.size, 1, none⟩ = some (.iface T v))
    (first
      | go_keep
      | (go_split_ands; exact ⟨keep_cell hb2 (by assumption), keep_cell hb2 (by assumption)⟩)
      | (go_split_ands; exact ⟨keep_cell hb1 (by assumption), keep_cell hb1 (by assumption)⟩)
      | fail)
    (first
      | (go_at_call 168; refine (IH.out _ (by exact HOG.out _ _ HW.out (bel_alloc (Below.refl _ _) _).drew)).mono ?_; rintro e w1 ⟨rfl, hb1⟩)
      | (go_at_call 196; refine (HSA.out _).mono ?_; rintro e w2 ⟨rfl, hb2⟩)
      | fail)
  all_goals
    go_wp2_with fail
    go_ret
    exact ⟨rfl, bel_trans ((bel_alloc (Below.refl _ _) _).drew.trans (hb1.mono (by simp))) hb2⟩

set_option maxHeartbeats 2000000 in
theorem putI_max (fv : Value) (f : ByteArray → It) (O : World → Prop) (hO : Grows O) (a b : It) (iha : PutAt fv f O a) (ihb : PutAt fv f O b) : PutAt fv f O (.max a b) := by
  intro w hw
  have a0 := Tryz.as146_144
  have a1 := Tryz.as146_146
  have IHA := hide iha
  have IHB := hide ihb
  have HOG := hide hO
  have HW := hide hw
  simp only [It.val, It.put]
  obtain ⟨Ta, va, hva⟩ := a.val_iface
  obtain ⟨Tb, vb, hvb⟩ := b.val_iface
  obtain ⟨Tc, vc, hvc⟩ := (a.put f).val_iface
  obtain ⟨Td, vd, hvd⟩ := (b.put f).val_iface
  unfold PutAt at IHA IHB
  rw [hva, hvc] at IHA
  rw [hvb, hvd] at IHB
  rw [hva, hvb, hvc, hvd]
  clear hva hvb hvc hvd hw iha ihb hO
  go_enter Tryz.func168, Tryz.ntmps168
  go_wp2_with fail
  go_region_held3 (fun w' => w'.cell? ⟨w.heap.size, 0, none⟩ = some (.iface Ta va) ∧ w'.cell? ⟨w.heap.size, 1, none⟩ = some (.iface Tb vb))
    (first
      | go_keep
      | (go_split_ands; exact ⟨keep_cell hb2 (by assumption), keep_cell hb2 (by assumption)⟩)
      | (go_split_ands; exact ⟨keep_cell hb1 (by assumption), keep_cell hb1 (by assumption)⟩)
      | fail)
    (first
      | (go_at_call_of 168 (Value.iface Ta va); refine (IHA.out _ (by exact HOG.out _ _ HW.out (bel_alloc (Below.refl _ _) _).drew)).mono ?_; rintro e w1 ⟨rfl, hb1⟩)
      | (go_at_call_of 168 (Value.iface Tb vb); refine (IHB.out _ (by exact HOG.out _ _ HW.out ((bel_alloc (Below.refl _ _) _).drew.trans (hb1.mono (by simp))))).mono ?_; rintro e w2 ⟨rfl, hb2⟩)
      | fail)
  all_goals
    go_wp2_with fail
    go_ret
    exact ⟨rfl, bel_trans ((bel_alloc (Below.refl _ _) _).drew.trans (hb1.mono (by simp))) hb2⟩

set_option maxHeartbeats 2000000 in
theorem putI_imax (fv : Value) (f : ByteArray → It) (O : World → Prop) (hO : Grows O) (a b : It) (iha : PutAt fv f O a) (ihb : PutAt fv f O b) : PutAt fv f O (.imax a b) := by
  intro w hw
  have a0 := Tryz.as147_144
  have a1 := Tryz.as147_146
  have a2 := Tryz.as147_147
  have IHA := hide iha
  have IHB := hide ihb
  have HOG := hide hO
  have HW := hide hw
  simp only [It.val, It.put]
  obtain ⟨Ta, va, hva⟩ := a.val_iface
  obtain ⟨Tb, vb, hvb⟩ := b.val_iface
  obtain ⟨Tc, vc, hvc⟩ := (a.put f).val_iface
  obtain ⟨Td, vd, hvd⟩ := (b.put f).val_iface
  unfold PutAt at IHA IHB
  rw [hva, hvc] at IHA
  rw [hvb, hvd] at IHB
  rw [hva, hvb, hvc, hvd]
  clear hva hvb hvc hvd hw iha ihb hO
  go_enter Tryz.func168, Tryz.ntmps168
  go_wp2_with fail
  go_region_held3 (fun w' => w'.cell? ⟨w.heap.size, 0, none⟩ = some (.iface Ta va) ∧ w'.cell? ⟨w.heap.size, 1, none⟩ = some (.iface Tb vb))
    (first
      | go_keep
      | (go_split_ands; exact ⟨keep_cell hb2 (by assumption), keep_cell hb2 (by assumption)⟩)
      | (go_split_ands; exact ⟨keep_cell hb1 (by assumption), keep_cell hb1 (by assumption)⟩)
      | fail)
    (first
      | (go_at_call_of 168 (Value.iface Ta va); refine (IHA.out _ (by exact HOG.out _ _ HW.out (bel_alloc (Below.refl _ _) _).drew)).mono ?_; rintro e w1 ⟨rfl, hb1⟩)
      | (go_at_call_of 168 (Value.iface Tb vb); refine (IHB.out _ (by exact HOG.out _ _ HW.out ((bel_alloc (Below.refl _ _) _).drew.trans (hb1.mono (by simp))))).mono ?_; rintro e w2 ⟨rfl, hb2⟩)
      | fail)
  all_goals
    go_wp2_with fail
    go_ret
    exact ⟨rfl, bel_trans ((bel_alloc (Below.refl _ _) _).drew.trans (hb1.mono (by simp))) hb2⟩

theorem putI_all (fv : Value) (f : ByteArray → It) (O : World → Prop) (hO : Grows O) (hf : ∀ s, (f s).cnt ≤ 64) (hp : ∀ s, PutAt fv f O (.param s)) : ∀ x : It, x.fine → x.cnt ≤ 1000 → PutAt fv f O x
  | .zero, _, _ => putI_zero fv f O
  | .succ n x, h, hc => putI_succ fv f O hO n x h.1 (by have := put_cnt f hf x; simp only [It.cnt] at hc; omega) (putI_all fv f O hO hf hp x h.2 (by simp only [It.cnt] at hc; omega))
  | .max a b, h, hc => putI_max fv f O hO a b (putI_all fv f O hO hf hp a h.1 (by simp only [It.cnt] at hc; omega)) (putI_all fv f O hO hf hp b h.2 (by simp only [It.cnt] at hc; omega))
  | .imax a b, h, hc => putI_imax fv f O hO a b (putI_all fv f O hO hf hp a h.1 (by simp only [It.cnt] at hc; omega)) (putI_all fv f O hO hf hp b h.2 (by simp only [It.cnt] at hc; omega))
  | .param s, _, _ => hp s
end Go.Proofs.YtbgibiongnhjoaaGreat

/- What the program's putNamedLevels and namedLevelsOk answer. -/
namespace Go.Proofs.YtbgibiongnhjoaaGreat
open Go.ChangeShapes Go.WideShapes Go.ChangeAt Go.RowKit


/-- The levels are those of the trees. -/
def LvTrees (ls : List (List Nd)) (ts : List Tr) : Prop := ls.length = ts.length ∧ ∀ i (h : i < ls.length) (h2 : i < ts.length), OkTree ls[i] ts[i]
theorem LvTrees.ok {ls : List (List Nd)} {ts : List Tr} (h : LvTrees ls ts) : ∀ t ∈ ts, t.ok := fun t ht => by
  obtain ⟨i, hi, rfl⟩ := List.mem_iff_getElem.1 ht
  exact (h.2 i (by have := h.1; omega) hi).2.1
theorem LvTrees.cnt {ls : List (List Nd)} {ts : List Tr} (h : LvTrees ls ts) : ∀ t ∈ ts, t.cnt ≤ 64 := fun t ht => by
  obtain ⟨i, hi, rfl⟩ := List.mem_iff_getElem.1 ht
  obtain ⟨_, _, _, h4, h5, _⟩ := h.2 i (by have := h.1; omega) hi
  omega
theorem putF_cnt {ls : List (List Nd)} {ts : List Tr} (h : LvTrees ls ts) (names : List ByteArray) (s : ByteArray) : (putF names ts s).cnt ≤ 64 := by
  unfold putF
  split
  · by_cases hl : (atS names s).toNat < ts.length
    · rw [show ts.getD (atS names s).toNat (.leaf 5 s) = ts[(atS names s).toNat] by simp [hl], it_cnt _ (h.ok _ (List.getElem_mem hl))]
      exact h.cnt _ (List.getElem_mem hl)
    · rw [show ts.getD (atS names s).toNat (.leaf 5 s) = .leaf 5 s by rw [List.getD_eq_getElem?_getD, List.getElem?_eq_none (by omega)]; rfl]
      simp [Tr.it, It.cnt]
  · simp [It.cnt]

/-- The worlds in which the two captured variables hold the names and the levels. -/
def PutCap (bn bl : Nat) (vn vl : Value) (names : List ByteArray) (ls : List (List Nd)) (w : World) : Prop :=
  w.cell? ⟨bn, 0, none⟩ = some vn ∧ w.cell? ⟨bl, 0, none⟩ = some vl ∧ StrsAt w vn names ∧ LevsAt w vl ls
theorem putcap_grows (bn bl : Nat) (vn vl : Value) (names : List ByteArray) (ls : List (List Nd)) : Grows (PutCap bn bl vn vl names ls) :=
  fun _ _ h hb => ⟨keep_cell hb h.1, keep_cell hb h.2.1, h.2.2.1.keep hb, h.2.2.2.keep hb⟩

set_option maxHeartbeats 1000000 in
theorem putFn_any (bn bl : Nat) (vn vl : Value) (names : List ByteArray) (ls : List (List Nd)) (ts : List Tr) (s : ByteArray) (w : World) (h : PutCap bn bl vn vl names ls w) (hl : names.length = ls.length) (ht : LvTrees ls ts) :
    Calls Tryz.prog 170 #[.agg #[.string s], .pointer (some ⟨bn, 0, none⟩), .pointer (some ⟨bl, 0, none⟩)] w fun e w' => e = .returned (putF names ts s).val ∧ Below w.heap.size w w' := by
  have HG := hide (putcap_grows bn bl vn vl names ls w)
  have HH := hide h
  obtain ⟨c1, c2, hn, hv⟩ := h
  have HN := hide hn
  obtain ⟨an, cn, rfl, _, _, _⟩ := hn
  obtain ⟨av, cv, rfl, hv1, hcv, hvc⟩ := hv
  unfold maxLen at hcv
  by_cases h0 : 0 ≤ atS names s
  · obtain ⟨i, hi⟩ : ∃ i : Nat, atS names s = i := ⟨(atS names s).toNat, by omega⟩
    have hm := atS_mem names s
    rw [decide_eq_true h0] at hm
    have hil := (atS_lt names s hm.symm).2
    have hip : i < ls.length := by omega
    have hit : i < ts.length := by have := ht.1; omega
    obtain ⟨b, off, rfl, hcell⟩ := hvc (by omega)
    obtain ⟨u, hu, hnu⟩ := hcell i hip
    obtain ⟨ua, uc, hue⟩ : ∃ a c, u = .slice a ls[i].length c := by obtain ⟨a, c, h, _⟩ := hnu; exact ⟨a, c, h⟩
    subst hue
    have HI := hide hi
    obtain ⟨o1, o2, _, _, o5, _⟩ := ht.2 i hip hit
    have HF : Hid ((putF names ts s).val = ts[i].it.val) := by
      show _ = _
      unfold putF
      rw [if_pos h0, hi]; simp [hit]
    have HT := hide (show ∀ W, Below w.heap.size w W → Calls Tryz.prog 169 #[.agg #[.slice ua ls[i].length uc]] W fun e w' => e = .returned ts[i].it.val ∧ Below W.heap.size W w' from fun W hb => levelTreeOf_any _ ls[i] ts[i] W (hnu.keep hb) o1 o2 o5)
    have HIX : Hid (∀ W, Below w.heap.size w W → Calls Tryz.prog 171 #[.slice an names.length cn, .string s] W fun e w' => e = .returned (.int .i64 (i : Int)) ∧ w' = W) := by
      intro W hb
      have := index_any _ names s W (HN.out.keep hb)
      rw [HI.out] at this
      exact this
    obtain ⟨T, v, hvv⟩ := ts[i].it.val_iface
    rw [hvv] at HF HT
    clear hnu o1
    generalize ls[i].length = ll at *
    have hlt : (i : Int) < (ls.length : Int) := by omega
    rw [HF.out]
    have hc1 := lt_cell c1
    have hc2 := lt_cell c2
    have hc3 := lt_cell hu
    clear hcell hl hi h0 hm hil hvc hvv ht o2 o5 HH HF
    go_enter Tryz.func170, Tryz.ntmps170
    go_wp2_with (first | (go_at_call 171; refine (HIX.out _ (bel_alloc (Below.refl _ _) _)).mono ?_; rintro e w' ⟨rfl, hw⟩; have hw := hw.symm; subst hw) | fail)
    refine (HT.out _ (bel_alloc (Below.refl _ _) _)).mono ?_
    rintro e w2 ⟨rfl, hb2⟩
    have HB2 := hide ((bel_alloc (Below.refl w.heap.size w) _).trans (hb2.mono (by simp)))
    clear hb2
    go_wp2_with fail
    go_ret
    exact ⟨rfl, HB2.out⟩
  · have HF : Hid ((putF names ts s).val = .iface 221 (.agg #[.string s])) := by show _ = _; unfold putF; rw [if_neg h0]; rfl
    have d0 : decide (0 ≤ atS names s) = false := by simp; omega
    have HIX : Hid (∀ W, Below w.heap.size w W → Calls Tryz.prog 171 #[.slice an names.length cn, .string s] W fun e w' => e = .returned (.int .i64 (atS names s)) ∧ w' = W) := fun W hb => index_any _ names s W (HN.out.keep hb)
    rw [HF.out]
    have hc1 := lt_cell c1
    have hc2 := lt_cell c2
    clear hvc ht HH hl
    have hlt0 : atS names s < 0 := by omega
    generalize atS names s = z at *
    go_enter Tryz.func170, Tryz.ntmps170
    go_wp2_with (first | (go_at_call 171; refine (HIX.out _ (bel_alloc (Below.refl _ _) _)).mono ?_; rintro e w' ⟨rfl, hw⟩; have hw := hw.symm; subst hw) | fail)
    go_ret
    exact ⟨rfl, bel_alloc (Below.refl _ _) _⟩

set_option maxHeartbeats 1000000 in
theorem putI_param (bn bl : Nat) (vn vl : Value) (names : List ByteArray) (ls : List (List Nd)) (ts : List Tr) (hl : names.length = ls.length) (ht : LvTrees ls ts) (s : ByteArray) :
    PutAt (.func (.func 170) #[] #[.pointer (some ⟨bn, 0, none⟩), .pointer (some ⟨bl, 0, none⟩)]) (putF names ts) (PutCap bn bl vn vl names ls) (.param s) := by
  intro w hw
  have a0 := Tryz.as149_144
  have a1 := Tryz.as149_146
  have a2 := Tryz.as149_147
  have a3 := Tryz.as149_149
  have HF := hide (fun w' h => putFn_any bn bl vn vl names ls ts s w' h hl ht)
  have HW := hide hw
  simp only [It.val, It.put]
  obtain ⟨T, v, hvv⟩ := (putF names ts s).val_iface
  rw [hvv] at HF ⊢
  clear hw hl ht hvv
  go_enter Tryz.func168, Tryz.ntmps168
  go_wp2_with (first | (go_at_call 170; refine (HF.out _ (putcap_grows _ _ _ _ _ _ _ _ HW.out (bel_alloc (Below.refl _ _) _))).mono ?_; rintro e w' ⟨rfl, hb1⟩) | fail)
  go_ret
  exact ⟨rfl, (bel_alloc (Below.refl _ _) _).trans (hb1.mono (by simp))⟩

set_option maxRecDepth 20000 in
set_option maxHeartbeats 4000000 in
theorem putNamed_any (v vn vl : Value) (ns : List Nd) (names : List ByteArray) (ls : List (List Nd)) (t : Tr) (ts : List Tr) (w : World) (hns : NodesAt w v ns) (hn : StrsAt w vn names) (hv : LevsAt w vl ls) (hl : names.length = ls.length) (hT : OkTree ns t) (ht : LvTrees ls ts) :
    Calls Tryz.prog 123 #[.agg #[v], vn, vl] w fun e w' => LvOut w.heap.size w' e (sizedR (t.put names ts)) 3 ∧ Below w.heap.size w w' := by
  obtain ⟨o1, o2, _, o4, o5, _⟩ := hT
  have hpok := putT_ok names ts ht.ok t o2
  have hpi := it_put names ts t o2
  have hpc : (t.put names ts).cnt ≤ 1000000 := by
    rw [← it_cnt _ hpok, hpi]
    have h1 := put_cnt (putF names ts) (putF_cnt ht names) t.it
    rw [it_cnt t o2] at h1
    omega
  obtain ⟨W, hW⟩ : ∃ W, W = (((w.alloc (.cells #[v] 111)).alloc (.cells #[vn] 48)).alloc (.cells #[vl] 54)).alloc (.cells #[.slice none 0 0] 111) := ⟨_, rfl⟩
  have HB := hide (show Below w.heap.size w W by rw [hW]; exact bel_alloc (bel_alloc (bel_alloc (bel_alloc (Below.refl _ _) _) _) _) _)
  have hsW : W.heap.size = w.heap.size + 1 + 1 + 1 + 1 := by rw [hW]; simp
  have x0 : W.cell? ⟨w.heap.size, 0, none⟩ = some v := by rw [hW]; simp [go_sem]
  have HX1 := hide (show W.cell? ⟨w.heap.size + 1, 0, none⟩ = some vn by rw [hW]; simp [go_sem])
  have HX2 := hide (show W.cell? ⟨w.heap.size + 1 + 1, 0, none⟩ = some vl by rw [hW]; simp [go_sem])
  have x3 : W.cell? ⟨w.heap.size + 1 + 1 + 1, 0, none⟩ = some (.slice none 0 0) := by rw [hW]; simp [go_sem]
  have xf : W.frozen? ⟨w.heap.size + 1 + 1 + 1, 0, none⟩ = false := by rw [hW]; simp [go_sem]
  have HXB := hide (show W.heap[w.heap.size + 1 + 1 + 1]? = some (.cells #[.slice none 0 0] 111 (0, 0)) by
    rw [hW]
    have := heap_alloc_new (((w.alloc (.cells #[v] 111)).alloc (.cells #[vn] 48)).alloc (.cells #[vl] 54)) (.cells #[.slice none 0 0] 111)
    simp only [World.size_alloc] at this
    exact this)
  have HTO := hide (levelTreeOf_any v ns t W (hns.keep HB.out) o1 o2 o5)
  have HPI := hide (fun W2 h => putI_all (.func (.func 170) #[] #[.pointer (some ⟨w.heap.size + 1, 0, none⟩), .pointer (some ⟨w.heap.size + 1 + 1, 0, none⟩)]) (putF names ts) (PutCap (w.heap.size + 1) (w.heap.size + 1 + 1) vn vl names ls) (putcap_grows _ _ _ _ _ _) (putF_cnt ht names) (fun s => putI_param _ _ vn vl names ls ts hl ht s) t.it (it_fine t) (by rw [it_cnt t o2]; omega) W2 h)
  have HCAP := hide (show PutCap (w.heap.size + 1) (w.heap.size + 1 + 1) vn vl names ls W from ⟨HX1.out, HX2.out, hn.keep HB.out, hv.keep HB.out⟩)
  have HSZ := hide (fun W2 => sizedLevel_any (t.put names ts) W2 hpok hpc)
  rw [← hpi] at HPI
  rw [It.val_pay (t.put names ts).it] at HPI
  obtain ⟨T1, v1, hv1⟩ := t.it.val_iface
  rw [hv1] at HTO HPI
  generalize (t.put names ts).it.tid = T2 at *
  generalize (t.put names ts).it.pay = v2 at *
  generalize t.put names ts = pt at *
  obtain ⟨va, vc, rfl, _, _, _⟩ := hns
  obtain ⟨na, nc, rfl, _, _, _⟩ := hn
  obtain ⟨la, lc, rfl, _, _, _⟩ := hv
  clear hpok hpi hpc hv1 o1 o2 o4 ht hl
  go_enter Tryz.func123, Tryz.ntmps123
  go_wp2_with fail
  rw [← hW]
  clear hW
  refine HTO.out.mono ?_
  rintro e w2 ⟨rfl, hb2⟩
  have hs2 := hb2.size
  have HB2 := hide (HB.out.trans (hb2.mono (by omega)))
  have HC2 := hide (putcap_grows _ _ _ _ _ _ _ _ HCAP.out hb2)
  have x3 := keep_cell hb2 x3
  have xf : w2.frozen? ⟨w.heap.size + 1 + 1 + 1, 0, none⟩ = false := (hb2.frozen (p := ⟨w.heap.size + 1 + 1 + 1, 0, none⟩) (by show w.heap.size + 1 + 1 + 1 < _; omega)).trans xf
  have HXB2 := hide ((hb2.block (w.heap.size + 1 + 1 + 1) (by omega)).trans HXB.out)
  clear hb2 HTO HCAP HX1 HX2 x0
  go_wp2_with fail
  refine (HPI.out w2 HC2.out).mono ?_
  rintro e w3 ⟨rfl, hb3⟩
  have hs3 := hb3.size
  have HB3 := hide (HB2.out.trans (hb3.mono (by omega)))
  have x3 := keep_cell hb3 x3
  have xf : w3.frozen? ⟨w.heap.size + 1 + 1 + 1, 0, none⟩ = false := (hb3.frozen (p := ⟨w.heap.size + 1 + 1 + 1, 0, none⟩) (by show w.heap.size + 1 + 1 + 1 < _; omega)).trans xf
  have HXB3 := hide ((hb3.block (w.heap.size + 1 + 1 + 1) (by omega)).trans HXB2.out)
  clear hb3 HPI HC2
  go_wp2_with fail
  refine (HSZ.out w3).mono ?_
  rintro e w4 ⟨hout, hb4⟩
  have hs4 := hb4.size
  have HB4 := hide (HB3.out.trans (hb4.mono (by omega)))
  have x3 := keep_cell hb4 x3
  have xf : w4.frozen? ⟨w.heap.size + 1 + 1 + 1, 0, none⟩ = false := (hb4.frozen (p := ⟨w.heap.size + 1 + 1 + 1, 0, none⟩) (by show w.heap.size + 1 + 1 + 1 < _; omega)).trans xf
  have HXB4 := hide ((hb4.block (w.heap.size + 1 + 1 + 1) (by omega)).trans HXB3.out)
  clear hb4 HSZ
  cases hr : sizedR pt with
  | none =>
    rw [hr] at hout
    have hout : e = .returned (.tuple #[.agg #[.slice none 0 0], .int .i64 3]) := hout
    subst hout
    have HR := hide hr
    clear hr
    go_wp2_with fail
    refine bodyPost_ret (v := .tuple #[.agg #[.slice none 0 0], .int .i64 3]) (by simp [results, go_sem, x3]) rfl ⟨by rw [HR.out]; exact rfl, HB4.out.setCell (p := ⟨_, _, _⟩) (by show w.heap.size ≤ w.heap.size + 1 + 1 + 1; omega) _⟩
  | some tt =>
    rw [hr] at hout
    obtain ⟨g, cap, rfl, hnd⟩ := hout
    have HR := hide hr
    have HND := hide ((hnd.mono (show w.heap.size ≤ w3.heap.size by omega)).set (l := w.heap.size + 1 + 1 + 1) (o := 0) (by decide) (by decide) HXB4.out (.slice (some ⟨g, 0, none⟩) tt.cnt cap))
    clear hr hnd
    go_wp2_with fail
    refine bodyPost_ret (v := .tuple #[.agg #[.slice (some ⟨g, 0, none⟩) tt.cnt cap], .int .i64 0]) (by simp [results, go_sem, x3]) rfl ⟨by rw [HR.out]; exact ⟨g, cap, rfl, HND.out⟩, HB4.out.setCell (p := ⟨_, _, _⟩) (by show w.heap.size ≤ w.heap.size + 1 + 1 + 1; omega) _⟩

/-- As many names as levels, and each level is valid. -/
def namedB (names : List ByteArray) (ls : List (List Nd)) : Bool := decide (names.length = ls.length) && ls.all lvlB
theorem all_take {α : Type} (p : α → Bool) (l : List α) (k : Nat) (h : k < l.length) : (l.take (k + 1)).all p = ((l.take k).all p && p l[k]) := by
  rw [List.take_succ_eq_append_getElem h, List.all_append]; simp

set_option maxRecDepth 20000 in
set_option maxHeartbeats 2000000 in
theorem namedOk_any (vn vl : Value) (names : List ByteArray) (ls : List (List Nd)) (w : World) (hn : StrsAt w vn names) (hv : LevsAt w vl ls) (hz : ∀ l ∈ ls, LvLens l) :
    Calls Tryz.prog 72 #[vn, vl] w fun e w' => e = .returned (.bool (namedB names ls)) ∧ Below w.heap.size w w' := by
  obtain ⟨na, nc, rfl, hn1, hn2, _⟩ := hn
  obtain ⟨la, lc, rfl, hl1, hl2, hlc⟩ := hv
  unfold maxLen at hn2 hl2
  have HLC := hide hlc
  have HZ := hide hz
  clear hlc hz
  by_cases hlen : names.length = ls.length
  · have q0 : ((names.length : Int) != (ls.length : Int)) = false := by simp [hlen]
    have HNB : Hid (namedB names ls = ls.all lvlB) := by show _ = _; unfold namedB; simp [hlen]
    rw [HNB.out]
    clear hlen HNB
    go_enter Tryz.func72, Tryz.ntmps72
    go_wp2_with fail
    go_loopw [14] (fun i wr => ∃ (k : Nat), k ≤ ls.length ∧ i = .int .i64 k ∧ Hid ((ls.take k).all lvlB = true) ∧ Hid (Below w.heap.size w wr)) (fun i _ => ls.length - (intOf i).toNat)
    case atStart => exact ⟨0, by omega, rfl, by show _ = _; simp, Below.refl _ _⟩
    case round =>
      obtain ⟨k, hk, rfl, HA, HB⟩ := hrel
      by_cases hlt : k < ls.length
      · obtain ⟨b, off, rfl, hc⟩ := HLC.out (by omega)
        obtain ⟨u, hu, hnu⟩ := hc k hlt
        have d1 := keep_cell HB.out hu
        have HNU := hide (hnu.keep HB.out)
        obtain ⟨ua, uc, hue⟩ : ∃ a c, u = .slice a ls[k].length c := by obtain ⟨a, c, h, _⟩ := hnu; exact ⟨a, c, h⟩
        subst hue
        have hlt' : (k : Int) < ls.length := by omega
        have HOK := hide (show ∀ W, Below wr.heap.size wr W → _ from fun W hb => implLevelOk_any _ ls[k] W (HNU.out.keep hb) (HZ.out _ (List.getElem_mem hlt)))
        have HT := hide (all_take lvlB ls k hlt)
        have HALL := hide (show lvlB ls[k] = false → ls.all lvlB = false from fun h => by rw [List.all_eq_false]; exact ⟨ls[k], List.getElem_mem hlt, by rw [h]; simp⟩)
        have hld := lt_cell d1
        clear hc hu hnu HNU
        generalize ls[k].length = ll at *
        generalize lvlB ls[k] = ok at *
        go_wp2_with fail
        refine (HOK.out _ (bel_alloc (Below.refl _ _) _)).mono ?_
        rintro e w2 ⟨rfl, hb2⟩
        have HB2 := hide (HB.out.trans (((bel_alloc (Below.refl wr.heap.size wr) _).trans (hb2.mono (by simp))).mono HB.out.size))
        clear hb2 HOK
        cases ok
        · go_wp2_with fail
          go_ret
          exact ⟨ret_bool (by first | exact (HALL.out rfl).symm | exact (HALL.out trivial).symm), HB2.out⟩
        · go_wp2_with fail
          go_roundw
          case rel => exact ⟨k + 1, by omega, by go_num, by show _ = _; rw [HT.out, HA.out]; rfl, HB2⟩
          case measure => simp [intOf]; omega
      · have HF : Hid (ls.all lvlB = true) := by show _ = _; have := HA.out; rwa [List.take_of_length_le (by omega)] at this
        go_wp2_with fail
        go_ret
        exact ⟨ret_bool HF.out.symm, HB.out⟩
  · have q0 : ((names.length : Int) != (ls.length : Int)) = true := by simp; omega
    have HNB : Hid (namedB names ls = false) := by show _ = _; unfold namedB; simp [hlen]
    rw [HNB.out]
    clear hlen HNB
    go_enter Tryz.func72, Tryz.ntmps72
    go_wp2_with fail
    go_ret
    exact ⟨rfl, Below.refl _ _⟩
end Go.Proofs.YtbgibiongnhjoaaGreat

/- The trees of valid levels. -/
namespace Go.Proofs.YtbgibiongnhjoaaGreat

theorem trees_ok {ls : List (List Nd)} (h : ls.all lvlB = true) : LvTrees ls (ls.map treeOf) :=
  ⟨by simp, fun i h1 h2 => by rw [List.getElem_map]; exact treeOf_ok (List.all_eq_true.1 h _ (List.getElem_mem h1))⟩
end Go.Proofs.YtbgibiongnhjoaaGreat
