/- The text of a term as a plain function of its nodes. No program is walked here. -/
import Derived.Test.YtcagcfhnbphggaaGreatDoorTFB
import Derived.Test.YtcagcfhnbphggaaGreatDoorTxT
import Derived.Test.YtcagcfhnbphggaaGreatDoorTMk
import Derived.Test.YtcagcfhnbphggaaGreatDoorTFTree
import Derived.Test.YtcagcfhnbphggaaGreatDoorTxD
namespace Go.Proofs.YtcagcfhnbphggaaGreatDoor

theorem Tr.flat_inj : ∀ (t u : Tr) (o : Nat), t.flat o = u.flat o → t = u := by
  intro t
  induction t with
  | leaf k s =>
    intro u o h
    cases u with
    | leaf k' s' => simp [Tr.flat] at h; rw [h.1, h.2]
    | one k' s' a =>
      have h2 := List.append_inj' (show [] ++ [(⟨k, s, []⟩ : Nd)] = _ from h) rfl
      simp at h2
    | two k' s' a b =>
      have h2 := List.append_inj' (show [] ++ [(⟨k, s, []⟩ : Nd)] = _ from h) rfl
      simp at h2
  | one k s a ih =>
    intro u o h
    cases u with
    | leaf k' s' =>
      have h2 := List.append_inj' (show _ = [] ++ [(⟨k', s', []⟩ : Nd)] from h) rfl
      simp at h2
    | one k' s' b =>
      have h2 := List.append_inj' (show a.flat o ++ [_] = b.flat o ++ [_] from h) rfl
      obtain ⟨h3, h4⟩ := h2
      simp only [List.cons.injEq, Nd.mk.injEq, and_true] at h4
      rw [ih b o h3, h4.1, h4.2.1]
    | two k' s' b c =>
      have h2 := List.append_inj' (show a.flat o ++ [_] = (b.flat o ++ c.flat (o + b.cnt)) ++ [_] from h) rfl
      simp at h2
  | two k s a b iha ihb =>
    intro u o h
    cases u with
    | leaf k' s' =>
      have h2 := List.append_inj' (show (a.flat o ++ b.flat (o + a.cnt)) ++ [_] = [] ++ [(⟨k', s', []⟩ : Nd)] from h) rfl
      simp at h2
    | one k' s' c =>
      have h2 := List.append_inj' (show (a.flat o ++ b.flat (o + a.cnt)) ++ [_] = c.flat o ++ [_] from h) rfl
      simp at h2
    | two k' s' c d =>
      have h2 := List.append_inj' (show (a.flat o ++ b.flat (o + a.cnt)) ++ [_] = (c.flat o ++ d.flat (o + c.cnt)) ++ [_] from h) rfl
      obtain ⟨h3, h4⟩ := h2
      simp only [List.cons.injEq, Nd.mk.injEq, and_true] at h4
      obtain ⟨e1, e2, e3, _⟩ := h4
      have pa := a.cnt_pos
      have pc := c.cnt_pos
      have hcc : a.cnt = c.cnt := by omega
      obtain ⟨h5, h6⟩ := List.append_inj h3 (by rw [Tr.flat_len, Tr.flat_len, hcc])
      rw [← hcc] at h6
      rw [iha c o h5, ihb d _ h6, e1, e2]

theorem fields_run (F : Td → Bool) (ts : List Td) : ∀ k st, trun F ts k = some st → ∀ i (h : i < ts.length), i < k → F ts[i] = true
  | 0, _, _ => fun i _ h => by omega
  | k + 1, st, h => by
    unfold trun at h
    split at h
    case h_2 => cases h
    rename_i st' td h1 h2
    unfold tstep at h
    split at h
    · cases h
    rename_i hno
    simp only [not_or, Decidable.not_not] at hno
    obtain ⟨_, _, n3, _⟩ := hno
    intro i hi hik
    by_cases e : i = k
    · subst e
      rw [List.getElem?_eq_getElem hi] at h2
      have e2 := Option.some.inj h2
      rw [e2]
      simpa using n3
    · exact fields_run F ts k st' h1 i hi (by omega)
theorem fields_all {ts : List Td} (h : termB ts = true) : ∀ i (hi : i < ts.length), tfieldsB nameB ts[i] = true := by
  simp only [termB, termB', Bool.and_eq_true] at h
  cases hr : trun (tfieldsB nameB) ts ts.length with
  | none => rw [hr] at h; simp at h
  | some st => exact fun i hi => fields_run _ ts ts.length st hr i hi hi
theorem len_of {ts : List Td} (h : termB ts = true) : ts.length ≤ 20000 := by
  simp only [termB, termB', Bool.and_eq_true, decide_eq_true_eq] at h
  exact h.1
/-- The text of a level. -/
noncomputable def txtL (l : List Nd) : ByteArray := open Classical in if h : ∃ t, LvTree l t then (Classical.choose h).it.text else ⟨#[]⟩
theorem txtL_eq {l : List Nd} {t : Tr} (h : LvTree l t) : txtL l = t.it.text := by
  have hx : ∃ t, LvTree l t := ⟨t, h⟩
  unfold txtL
  rw [dif_pos hx]
  have h2 := Classical.choose_spec hx
  rw [Tr.flat_inj _ _ 0 (h2.1.symm.trans h.1)]



def dD (n : Int) : List UInt8 := Lib.decDigits n.toNat
/-- The levels of a constant up to the i-th. -/
noncomputable def lvsT (ls : List (List Nd)) : Nat → List UInt8
  | 0 => []
  | i + 1 => lvsT ls i ++ ((if i = 0 then 123 else 44) :: (txtL (ls.getD i [])).data.toList)
noncomputable def constT (td : Td) : List UInt8 := td.s.data.toList ++ lvsT td.lv td.lv.length ++ (if td.lv.length = 0 then [] else [125])
/-- The sign of a node in brackets. -/
def signT (k : Int) : List UInt8 := if k = 5 then [94] else if k = 6 then [33] else if k = 7 then [61] else if k = 8 then [46] else []
/-- What stands ahead of the kids. -/
def headT (td : Td) : List UInt8 :=
  if td.k = 5 ∨ td.k = 6 ∨ td.k = 7 then [91] ++ signT td.k ++ [32] ++ td.s.data.toList ++ [32] ++ (if td.k = 7 then [] else dD td.m ++ [32])
  else if td.k = 8 then [91] ++ [46, 32] ++ td.s.data.toList ++ [32] ++ dD td.n ++ [32]
  else [91]
/-- The first i kids, with a blank between. -/
def kidsT (g : Nat → List UInt8 → List UInt8) (ks : List Int) : Nat → List UInt8 → List UInt8
  | 0, out => out
  | i + 1, out => g (ks.getD i 0).toNat (kidsT g ks i out ++ (if i = 0 then [] else [32]))
noncomputable def nodeT (td : Td) (g : Nat → List UInt8 → List UInt8) (out : List UInt8) : List UInt8 :=
  if td.k = 1 then out ++ 35 :: dD td.n
  else if td.k = 9 then out ++ 63 :: dD td.n
  else if td.k = 2 then out ++ 42 :: (txtL (td.lv.getD 0 [])).data.toList
  else if td.k = 3 then out ++ constT td
  else kidsT g td.kids td.kids.length (out ++ headT td) ++ [93]
/-- The text that is written at a place, behind another text. -/
noncomputable def wrT (ts : List Td) : Nat → Nat → List UInt8 → List UInt8
  | 0, _, out => out
  | f + 1, p, out => if 400000 < out.length then out else nodeT (ts.getD p ⟨0, 0, 0, ⟨#[]⟩, [], []⟩) (wrT ts f) out
/-- A node that a valid term may have. -/
structure NodeOk (td : Td) : Prop where
  kind : 1 ≤ td.k ∧ td.k ≤ 9
  kids : (td.kids.length : Int) = tkidsN td.k
  num : 0 ≤ td.n ∧ td.n ≤ 1000000
  mode : 0 ≤ td.m ∧ td.m ≤ 2
  str : td.s.size ≤ 40
  lvs : td.lv.length ≤ 6
  uni : td.k = 2 → td.lv.length = 1
  lev : ∀ l ∈ td.lv, lvlB l = true
theorem kids_run (F : Td → Bool) (ts : List Td) : ∀ k st, trun F ts k = some st → ∀ i (h : i < ts.length), i < k → 0 ≤ tkidsN ts[i].k ∧ (ts[i].kids.length : Int) = tkidsN ts[i].k
  | 0, _, _ => fun i _ h => by omega
  | k + 1, st, h => by
    unfold trun at h
    split at h
    case h_2 => cases h
    rename_i st' td h1 h2
    unfold tstep at h
    split at h
    · cases h
    rename_i hno
    simp only [not_or, Decidable.not_not] at hno
    obtain ⟨n1, n2, n3, n4⟩ := hno
    intro i hi hik
    by_cases e : i = k
    · subst e
      rw [List.getElem?_eq_getElem hi] at h2
      have e2 := Option.some.inj h2
      rw [e2, n4, List.length_drop]
      omega
    · exact kids_run F ts k st' h1 i hi (by omega)
theorem empty_sz {s : ByteArray} (h : s.toList.isEmpty = true) : s.size = 0 := by
  rw [ByteArray.toList_eq] at h
  have h2 := List.isEmpty_iff.1 h
  have h3 : s.data.toList.length = 0 := by rw [h2]; rfl
  rw [Array.length_toList] at h3
  exact h3
theorem node_ok {ts : List Td} (h : termB ts = true) : ∀ i (hi : i < ts.length), NodeOk ts[i] := by
  intro i hi
  have hf := fields_all h i hi
  have hk : 0 ≤ tkidsN ts[i].k ∧ (ts[i].kids.length : Int) = tkidsN ts[i].k := by
    simp only [termB, termB', Bool.and_eq_true] at h
    cases hr : trun (tfieldsB nameB) ts ts.length with
    | none => rw [hr] at h; simp at h
    | some st => exact kids_run _ ts ts.length st hr i hi hi
  obtain ⟨h1, h2⟩ := hk
  generalize ts[i] = td at *
  simp only [tfieldsB, numB, modeB, Bool.and_eq_true, decide_eq_true_eq] at hf
  obtain ⟨⟨⟨⟨n1, n2⟩, m1, m2⟩, s1⟩, l1⟩ := hf
  simp only [tlevB, Bool.and_eq_true, decide_eq_true_eq, List.all_eq_true] at l1
  obtain ⟨⟨l1, l2⟩, l3⟩ := l1
  refine ⟨?_, h2, ⟨n1, ?_⟩, ⟨m1, ?_⟩, ?_, ?_, ?_, l3⟩
  · by_cases e : td.k < 1 ∨ 9 < td.k
    · rw [tkidsN_neg _ e] at h1; omega
    · omega
  · unfold gN at n2
    split at n2
    · omega
    · split at n2 <;> omega
  · unfold gM at m2
    split at m2 <;> omega
  · unfold tnameB at s1
    split at s1
    · unfold nameB at s1
      simp only [Bool.and_eq_true, decide_eq_true_eq] at s1
      exact s1.1
    · split at s1
      · unfold shortB at s1
        simp only [Bool.and_eq_true, decide_eq_true_eq] at s1
        exact s1.1.1.2
      · have := empty_sz s1; omega
  · unfold mostL at l2
    split at l2
    · omega
    · split at l2 <;> omega
  · intro e
    unfold leastL at l1
    unfold mostL at l2
    rw [if_pos e] at l1 l2
    omega
theorem term_pos {ts : List Td} (h : termB ts = true) : 1 ≤ ts.length ∧ ts.length ≤ 20000 := by
  refine ⟨?_, len_of h⟩
  simp only [termB, termB', Bool.and_eq_true] at h
  rcases Nat.eq_zero_or_pos ts.length with e | e
  · have : ts = [] := List.eq_nil_of_length_eq_zero e
    subst this
    simp [trun] at h
  · exact e
end Go.Proofs.YtcagcfhnbphggaaGreatDoor

/- The specification's l1Dec at numbers of up to eight digits. -/
namespace Go.Proofs.YtcagcfhnbphggaaGreatDoor
open Go.ChangeShapes Go.WideShapes Go.ChangeAt Go.RowKit

theorem dec_len : ∀ (i : Nat), i < 100000000 → (Lib.decDigits i).length ≤ 8 := by
  intro i hi
  rw [Lib.decDigits_length]
  have : ∀ k n : Nat, 1 ≤ k → n < 10 ^ k → Lib.nDigits n ≤ k := by
    intro k
    induction k with
    | zero => intro n h; omega
    | succ k ih =>
      intro n _ hn
      by_cases h10 : n < 10
      · rw [Lib.nDigits_small h10]; omega
      · rw [Lib.nDigits_big h10]
        by_cases hk : k = 0
        · subst hk; simp at hn; omega
        · have := ih (n / 10) (by omega) (by rw [Nat.pow_succ] at hn; omega)
          omega
  exact this 8 i (by omega) (by simpa using hi)
set_option maxRecDepth 100000 in
set_option maxHeartbeats 4000000 in
theorem l1Dec_step (i : Nat) (h0 : ¬ i < 10) (h : i < 100000000) (ih : ∀ W : World, Calls Tryz.prog 27 #[.int .i64 ((i / 10 : Nat) : Int)] W fun e w' => e = .returned (.string ⟨(Lib.decDigits (i / 10)).toArray⟩) ∧ Below W.heap.size W w') (w : World) :
    Calls Tryz.prog 27 #[.int .i64 i] w fun e w' => e = .returned (.string ⟨(Lib.decDigits i).toArray⟩) ∧ Below w.heap.size w w' := by
  have HDS : Lib.decDigits i = Lib.decDigits (i / 10) ++ [UInt8.ofNat (48 + i % 10)] := by
    conv => lhs; unfold Lib.decDigits
    rw [dif_neg h0]
  have hl9 := dec_len (i / 10) (by omega)
  have HQ := hide (show ∀ W, Calls Tryz.prog 27 #[.int .i64 ((i : Int) / 10)] W fun e w' => e = .returned (.string ⟨(Lib.decDigits (i / 10)).toArray⟩) ∧ Below W.heap.size W w' from fun W => by
    rw [show ((i : Int) / 10) = ((i / 10 : Nat) : Int) by omega]
    exact ih W)
  have HC := hide (fun (W : World) (b : Nat) c => conv_dig W b (48 + (i : Int) % 10) (i % 10) (by omega) (by omega) c)
  generalize UInt8.ofNat (48 + i % 10) = d at HDS HC
  generalize Lib.decDigits (i / 10) = ds at HDS HQ hl9
  obtain ⟨S, hS⟩ : ∃ S : ByteArray, S = ⟨ds.toArray⟩ := ⟨_, rfl⟩
  rw [← hS] at HQ
  have hszN : ¬ 9223372036854775807 < S.size + 1 := by
    have : S.size = ds.length := by rw [hS]; simp [ByteArray.size]
    omega
  have HD : Hid ((⟨(Lib.decDigits i).toArray⟩ : ByteArray) = S ++ ⟨#[d]⟩) := by
    show _ = _
    rw [HDS, hS]
    apply ByteArray.ext
    simp
  clear HDS hS ih hl9
  have h0' : (10 : Int) ≤ i := by omega
  have q1 : IntKind.i64.wrap ((i : Int) / 10) = (i : Int) / 10 := by rw [IntKind.wrap_i64]; omega
  have q2 : (i : Int).tmod 10 = (i : Int) % 10 := by rw [Int.tmod_eq_emod_of_nonneg (by omega)]
  have q3 : IntKind.i64.wrap (48 + (i : Int) % 10) = 48 + (i : Int) % 10 := by rw [IntKind.wrap_i64]; omega
  have q4 : IntKind.u8.wrap (48 + (i : Int) % 10) = 48 + (i : Int) % 10 := by rw [IntKind.wrap_u8]; omega
  clear h0 h
  have hszH := hide hszN
  clear hszN
  go_enter Tryz.func27, Tryz.ntmps27
  go_wp2_with fail
  refine anyE_region (S := fun _ => True) (L := 10) (by kernel_rfl) ?_
  refine anyE_take 0 (v := ?v0) rfl (by kernel_rfl) (by kernel_rfl) (by kernel_rfl) (by kernel_rfl) (fun _ _ _ h => h) (by rfl) ?hy0 trivial ?rest0
  case hy0 =>
    intro wx hx
    go_simp
    try rfl
  case rest0 =>
  intro K hK
  go_simp
  refine hK.out _ ?_
  clear hK K
  refine anyE_take 1 (v := ?v1) rfl (by kernel_rfl) (by kernel_rfl) (by kernel_rfl) (by kernel_rfl) (fun _ _ _ h => h) (by rfl) ?hy1 trivial ?rest1
  case hy1 =>
    intro wx hx
    go_simp
    try rfl
  case rest1 =>
  intro K hK
  go_simp
  refine hK.out _ ?_
  clear hK K
  refine anyE_take 3 (v := ?v2) rfl (by kernel_rfl) (by kernel_rfl) (by kernel_rfl) (by kernel_rfl) (fun _ _ _ h => h) (by rfl) ?hy2 trivial ?rest2
  case hy2 =>
    intro wx hx
    go_simp
    try rfl
  case rest2 =>
  intro K hK
  go_simp
  refine hK.out _ ?_
  clear hK K
  refine anyE_take 4 (v := ?v3) rfl (by kernel_rfl) (by kernel_rfl) (by kernel_rfl) (by kernel_rfl) (fun _ _ _ h => h) (by rfl) ?hy3 trivial ?rest3
  case hy3 =>
    intro wx hx
    go_simp
    try rfl
  case rest3 =>
  intro K hK
  go_simp
  refine hK.out _ ?_
  clear hK K
  refine anyE_take 5 (v := ?v4) rfl (by kernel_rfl) (by kernel_rfl) (by kernel_rfl) (by kernel_rfl) (fun _ _ _ h => h) (by rfl) ?hy4 trivial ?rest4
  case hy4 =>
    intro wx hx
    go_simp
    try rfl
  case rest4 =>
  intro K hK
  go_simp
  refine hK.out _ ?_
  clear hK K
  refine anyE_take 6 (v := ?v5) rfl (by kernel_rfl) (by kernel_rfl) (by kernel_rfl) (by kernel_rfl) (fun _ _ _ h => h) (by rfl) ?hy5 trivial ?rest5
  case hy5 =>
    intro wx hx
    go_simp
    try rfl
  case rest5 =>
  intro K hK
  go_simp
  refine hK.out _ ?_
  clear hK K
  try simp only [q2, q3, q4]
  refine anyE_two 2 7 (by kernel_rfl) rfl rfl (fun K hK => ?_) (fun K hK => ?_)
  · go_simp
    try simp only [q1]
    refine (HQ.out _).mono ?_
    rintro e w1 ⟨rfl, hb1⟩
    refine hK.out _ _ (fun _ => trivial) ?_
    clear hK K
    refine anyE_one 7 (by kernel_rfl) rfl (fun K hK => ?_)
    go_simp
    refine hK.out _ _ (fun _ => trivial) ?_
    clear hK K
    refine anyE_one 8 (by kernel_rfl) rfl (fun K hK => ?_)
    go_simp
    rw [HC.out _ _ (by simp [go_sem])]
    go_simp
    refine hK.out _ _ (fun _ => trivial) ?_
    clear hK K
    refine anyE_one 9 (by kernel_rfl) rfl (fun K hK => ?_)
    go_simp
    rw [if_neg hszH.out]
    refine hK.out _ _ (fun _ => trivial) ?_
    clear hK K
    refine anyE_one 10 (by kernel_rfl) rfl (fun K hK => ?_)
    go_simp
    refine hK.out _ _ (fun h => absurd rfl h) ?_
    clear hK K
    refine anyE_done (by kernel_rfl) ?_ _
    go_wp2_with fail
    go_ret
    refine ⟨?_, ((Below.refl w.heap.size w).drew.trans hb1).alloc (by have := hb1.size; simpa using this) _⟩
    rw [HD.out]
    rfl
  · go_simp
    refine hK.out _ _ (fun _ => trivial) ?_
    clear hK K
    have hc0 : ((w.alloc (.cells #[.int .u8 (48 + (i : Int) % 10)] 5)).drew).cell? ⟨w.heap.size, 0, none⟩ = some (.int .u8 (48 + (i : Int) % 10)) := by simp [go_sem]
    refine anyE_two 2 8 (by kernel_rfl) rfl rfl (fun K hK => ?_) (fun K hK => ?_)
    · go_simp
      try simp only [q1]
      refine (HQ.out _).mono ?_
      rintro e w1 ⟨rfl, hb1⟩
      refine hK.out _ _ (fun _ => trivial) ?_
      clear hK K
      have hc1 := keep_cell hb1 hc0
      refine anyE_one 8 (by kernel_rfl) rfl (fun K hK => ?_)
      go_simp
      rw [HC.out _ _ hc1]
      go_simp
      refine hK.out _ _ (fun _ => trivial) ?_
      clear hK K
      refine anyE_one 9 (by kernel_rfl) rfl (fun K hK => ?_)
      go_simp
      rw [if_neg hszH.out]
      refine hK.out _ _ (fun _ => trivial) ?_
      clear hK K
      refine anyE_one 10 (by kernel_rfl) rfl (fun K hK => ?_)
      go_simp
      refine hK.out _ _ (fun h => absurd rfl h) ?_
      clear hK K
      refine anyE_done (by kernel_rfl) ?_ _
      go_wp2_with fail
      go_ret
      refine ⟨?_, (bel_alloc (Below.refl _ _) _).drew.trans (hb1.mono (by simp))⟩
      rw [HD.out]
      rfl

    · go_simp
      rw [HC.out _ _ hc0]
      go_simp
      refine hK.out _ _ (fun _ => trivial) ?_
      clear hK K
      refine anyE_one 2 (by kernel_rfl) rfl (fun K hK => ?_)
      go_simp
      try simp only [q1]
      refine (HQ.out _).mono ?_
      rintro e w1 ⟨rfl, hb1⟩
      refine hK.out _ _ (fun _ => trivial) ?_
      clear hK K
      refine anyE_one 9 (by kernel_rfl) rfl (fun K hK => ?_)
      go_simp
      rw [if_neg hszH.out]
      refine hK.out _ _ (fun _ => trivial) ?_
      clear hK K
      refine anyE_one 10 (by kernel_rfl) rfl (fun K hK => ?_)
      go_simp
      refine hK.out _ _ (fun h => absurd rfl h) ?_
      clear hK K
      refine anyE_done (by kernel_rfl) ?_ _
      go_wp2_with fail
      go_ret
      refine ⟨?_, (bel_alloc (Below.refl _ _) _).drew.trans (hb1.mono (by simp))⟩
      rw [HD.out]
      rfl

theorem l1Dec_all : ∀ (i : Nat), i < 100000000 → ∀ w, Calls Tryz.prog 27 #[.int .i64 i] w fun e w' => e = .returned (.string ⟨(Lib.decDigits i).toArray⟩) ∧ Below w.heap.size w w' := by
  intro i
  induction i using Nat.strongRecOn with
  | ind i ih =>
    intro h w
    by_cases h0 : i < 10
    · exact l1Dec_one i h0 w
    · exact l1Dec_step i h0 h (fun W => ih (i / 10) (by omega) (by omega) W) w
end Go.Proofs.YtcagcfhnbphggaaGreatDoor
