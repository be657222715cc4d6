/- A region that draws its order, whose own operations only read and whose callees write nothing below a block number, walked once in the order of the text. -/
import Derived.Test.YtgomimhelgjddaaGreatFew
import Derived.Deep.QuietTactic
import Derived.BigQuiet
import Derived.Deep.RegionHeld3
import Derived.Test.YtgomimhelgjddaaGreatChecked
import Derived.WalkKit
import Derived.ProofKit
import Derived.Below
import Derived.Lib.ItoaNum
import Derived.Lib.ItoaWalk
import Derived.Lib.Strings
import Derived.Laws.IdiomStrings
import Derived.Test.YtgomimhelgjddaaGreatSign
namespace Go.Proofs.YtgomimhelgjddaaGreat
open Go.ChangeShapes Go.WideShapes Go.ChangeAt Go.RowKit

/-- A world that is as w below block number B. -/
structure Bel (B : Nat) (w : World) where
  w' : World
  h : Below B w w'
theorem bel_ne (B : Nat) (w : World) : Nonempty (Bel B w) := ⟨⟨w, Below.refl B w⟩⟩
theorem wp_region_bel {P : Program} {id : Nat} {Q : Exit → Act → World → Prop} {a : Act} {w : World} {l : List Oper} (B : Nat) (hm : P.follows .mixedOrders = true) (hB : Region.lexB .any l.toArray = true)
    (h : wpQuiet P l.toArray (fun w' => ∃ p : Bel B w, w' = p.w') (fun a' => ∀ w', (∃ p : Bel B w, w' = p.w') → Q .normal a' w') l a) : (Code.region id l.toArray true).wp P Q a w :=
  wp_region_quiet (C := fun w' => ∃ p : Bel B w, w' = p.w') hm hB ⟨⟨w.drew, (Below.refl B w).drew⟩, rfl⟩ (by simpa using h)
theorem calls_bel {P : Program} {f : FuncId} {args : Array Value} {B : Nat} {w : World} {p : Bel B w} {v : Value} (hB : B ≤ w.heap.size)
    (h : Calls P f args p.w' fun e w' => e = .returned v ∧ Below p.w'.heap.size p.w' w') : Calls P f args p.w' fun e w'' => e = .returned v ∧ ∃ q : Bel B w, w'' = q.w' :=
  h.mono fun _ w'' ⟨he, hb⟩ => ⟨he, ⟨w'', p.h.trans (hb.mono (Nat.le_trans hB p.h.size))⟩, rfl⟩
theorem calls_bel_same {P : Program} {f : FuncId} {args : Array Value} {B : Nat} {w : World} {p : Bel B w} {v : Value}
    (h : Calls P f args p.w' fun e w' => e = .returned v ∧ w' = p.w') : Calls P f args p.w' fun e w'' => e = .returned v ∧ ∃ q : Bel B w, w'' = q.w' :=
  h.mono fun _ _ ⟨he, hb⟩ => ⟨he, p, hb⟩
theorem Bel.cell {B : Nat} {w : World} (p : Bel B w) {b o : Nat} {v : Value} (hb : b < B) (h : w.cell? ⟨b, o, none⟩ = some v) : p.w'.cell? ⟨b, o, none⟩ = some v := by
  rw [p.h.cell (p := ⟨b, o, none⟩) hb]; exact h
end Go.Proofs.YtgomimhelgjddaaGreat

/- Regions that draw their order and end in one store that waits for all else: a condition on the world that holds up to that store lets loads be taken first, also those of the cell that is stored to. -/
namespace Go.Proofs.YtgomimhelgjddaaGreat
open Go.ChangeShapes Go.WideShapes Go.ChangeAt Go.RowKit

/-- Operation L waits for operation i. -/
def waitsB (md : Region.Mode) (ops : Array Oper) (L i : Nat) : Bool :=
  match ops[L]? with
  | some o => o.after.any fun e => Region.binds md e && e.on == i
  | none => false
section
variable {P : Program} {ops : Array Oper} {Q : Exit → Act → World → Prop} {md : Region.Mode} {S : World → Prop} {L : Nat}

/-- Whatever order comes: S holds behind each operation but number L. -/
def wpAnyE (P : Program) (md : Region.Mode) (ops : Array Oper) (Q : Exit → Act → World → Prop) (S : World → Prop) (L : Nat) : Nat → Array Bool → Act → World → Prop
  | 0, listed, a, w => Region.ready md ops listed = [] ∧ Q .normal a w
  | fuel + 1, listed, a, w => (Region.ready md ops listed = [] → Q .normal a w) ∧
      ∀ i ∈ Region.ready md ops listed, wpOp P ops Q i (fun a' w' => (i ≠ L → S w') ∧ wpAnyE P md ops Q S L fuel (listed.setIfInBounds i true) a' w') a w
theorem anyE_any : ∀ (fuel : Nat) (listed : Array Bool) (a : Act) (w : World), wpAnyE P md ops Q S L fuel listed a w → wpAny P md ops Q fuel listed a w
  | 0, _, _, _, h => h
  | fuel + 1, _, _, _, h => ⟨h.1, fun i hi => wpOp_mono (fun a' w' q => anyE_any fuel _ a' w' q.2) (h.2 i hi)⟩
theorem anyE_region {id : Nat} {a : Act} {w : World} (hm : P.follows .mixedOrders = true) (h : wpAnyE P .any ops Q S L ops.size (Array.replicate ops.size false) a w.drew) : (Code.region id ops true).wp P Q a w :=
  wp_region_any hm (anyE_any _ _ _ _ h)
theorem unlisted {i : Nat} {listed : Array Bool} (h : i ∈ Region.ready md ops listed) {o : Oper} {j : Nat} (hj : j ∈ Region.ready md ops listed) (ho : ops[j]? = some o) : ∀ e ∈ o.after, Region.binds md e = true → e.on ≠ i := by
  intro e he hb heq
  obtain ⟨_, oj, hoj, hall⟩ := mem_ready.1 hj
  rw [ho] at hoj
  cases hoj
  have h1 := hall e he hb
  have h0 := (mem_ready.1 h).1
  rw [heq] at h1
  rcases Nat.lt_or_ge i listed.size with h' | h'
  · simp [h'] at h0 h1; rw [h0] at h1; cases h1
  · simp [Array.getElem?_eq_none h'] at h1
theorem anyE_first {i : Nat} {oi : Oper} {v : Value} (hi : ops[i]? = some oi) (hs : Region.noSelect ops = true) (hL : waitsB md ops L i = true) (hQ : ∀ c a w, Q (.panic c) (a.put oi.dst v) w → Q (.panic c) a w) :
    ∀ (fuel : Nat) (listed : Array Bool) (a : Act) (w : World),
      (∀ j oj, ops[j]? = some oj → j ≠ i → listed.getD j true = false → (∀ e ∈ oj.after, Region.binds md e = true → e.on ≠ i) → oi.apart ops oj = true) →
      i ∈ Region.ready md ops listed → YieldsIf P ops S oi v a → S w →
      wpAnyE P md ops Q S L fuel (listed.setIfInBounds i true) (a.put oi.dst v) w → wpAnyE P md ops Q S L (fuel + 1) listed a w := by
  intro fuel
  induction fuel with
  | zero =>
    intro listed a w _ hr hy hS H
    refine ⟨fun h => (by rw [h] at hr; cases hr), fun j hj => ?_⟩
    by_cases hji : j = i
    · subst hji; exact hy.wpOp hi hS ⟨fun _ => hS, H⟩
    · have h := ready_mono hj hji
      rw [H.1] at h
      cases h
  | succ fuel ih =>
    intro listed a w hfree hr hy hS H
    refine ⟨fun h => (by rw [h] at hr; cases hr), fun j hj => ?_⟩
    by_cases hji : j = i
    · subst hji; exact hy.wpOp hi hS ⟨fun _ => hS, H⟩
    · obtain ⟨hjun, oj, hoj, _⟩ := mem_ready.1 hj
      have hjL : j ≠ L := by
        intro e
        subst e
        unfold waitsB at hL
        rw [hoj] at hL
        obtain ⟨x, hx, hb⟩ := Array.any_eq_true'.1 hL
        simp only [Bool.and_eq_true, beq_iff_eq] at hb
        exact unlisted hr hj hoj x hx hb.1 hb.2
      have h2 := wpOp_putIf hoj (hfree j oj hoj hji hjun (unlisted hr hj hoj)) (fun cs b => Region.noSelect_spec hs i oi cs b hi) (fun cs b => Region.noSelect_spec hs j oj cs b hoj) hQ hy (H.2 j (ready_mono hj hji))
      refine wpOp_mono (fun a' w' h3 => ⟨h3.2.1, ih (listed.setIfInBounds j true) a' w' (fun k ok hk hki hun hno => hfree k ok hk hki ?_ hno) (ready_mono hr (Ne.symm hji)) h3.1 (h3.2.1 hjL) ?_⟩) h2
      · by_cases hjk : j = k
        · subst hjk; exact hjun
        · rw [getD_set_ne true hjk] at hun; exact hun
      · rw [Array.setIfInBounds_comm _ _ hji]
        exact h3.2.2
/-- Operation i is taken first. -/
theorem anyE_take (i : Nat) {oi : Oper} {v : Value} {fuel : Nat} {listed : Array Bool} {a : Act} {w : World} (hi : ops[i]? = some oi) (hs : Region.noSelect ops = true) (hL : waitsB md ops L i = true) (hf : Region.free md ops listed i = true) (hr : (Region.ready md ops listed).contains i = true)
    (hQ : ∀ c a w, Q (.panic c) (a.put oi.dst v) w → Q (.panic c) a w) (hw : Region.wanted oi (yielded ops a.tmps) = true) (hy : ∀ w, S w → (execOp a.eval oi).run P w = .ok (.value v) w) (hS : S w)
    (h : ∀ K : Act → Prop, Hid (∀ a, wpAnyE P md ops Q S L fuel (listed.setIfInBounds i true) a w → K a) → K (a.put oi.dst v)) : wpAnyE P md ops Q S L (fuel + 1) listed a w :=
  anyE_first hi hs hL hQ fuel listed a w (Region.free_spec hi hf) (by simpa using hr) (.inl ⟨hw, hy⟩) hS (h _ (fun _ h => h))
/-- Operation i is the only one that may come. -/
theorem anyE_one (i : Nat) {o : Oper} {fuel : Nat} {listed : Array Bool} {a : Act} {w : World} (hr : Region.ready md ops listed = [i]) (ho : ops[i]? = some o)
    (h : ∀ K : Act → World → Prop, Hid (∀ a w, (i ≠ L → S w) → wpAnyE P md ops Q S L fuel (listed.setIfInBounds i true) a w → K a w) → if Region.wanted o (yielded ops a.tmps) = true then Oper.wp P o a w K Q else K (a.put o.dst undef) w) : wpAnyE P md ops Q S L (fuel + 1) listed a w :=
  ⟨fun h0 => (by rw [hr] at h0; cases h0), fun j hj => by
    rw [hr] at hj
    have e : j = i := by simpa using hj
    subst e
    exact wpOp_step ho (fun K hK => h K (fun a w h1 h2 => hK a w ⟨h1, h2⟩))⟩
/-- One of two may come. -/
theorem anyE_two (i j : Nat) {o p : Oper} {fuel : Nat} {listed : Array Bool} {a : Act} {w : World} (hr : Region.ready md ops listed = [i, j]) (ho : ops[i]? = some o) (hp : ops[j]? = some p)
    (h : ∀ K : Act → World → Prop, Hid (∀ a w, (i ≠ L → S w) → wpAnyE P md ops Q S L fuel (listed.setIfInBounds i true) a w → K a w) → if Region.wanted o (yielded ops a.tmps) = true then Oper.wp P o a w K Q else K (a.put o.dst undef) w)
    (h2 : ∀ K : Act → World → Prop, Hid (∀ a w, (j ≠ L → S w) → wpAnyE P md ops Q S L fuel (listed.setIfInBounds j true) a w → K a w) → if Region.wanted p (yielded ops a.tmps) = true then Oper.wp P p a w K Q else K (a.put p.dst undef) w) : wpAnyE P md ops Q S L (fuel + 1) listed a w :=
  ⟨fun h0 => (by rw [hr] at h0; cases h0), fun k hk => by
    rw [hr] at hk
    rcases List.mem_cons.1 hk with e | hk
    · subst e
      exact wpOp_step ho (fun K hK => h K (fun a w h1 h2 => hK a w ⟨h1, h2⟩))
    · have e : k = j := by simpa using hk
      subst e
      exact wpOp_step hp (fun K hK => h2 K (fun a w h1 h2 => hK a w ⟨h1, h2⟩))⟩
theorem anyE_done {listed : Array Bool} {a : Act} {w : World} (hr : Region.ready md ops listed = []) (h : Q .normal a w) : ∀ fuel, wpAnyE P md ops Q S L fuel listed a w
  | 0 => ⟨hr, h⟩
  | _ + 1 => ⟨fun _ => h, by rw [hr]; simp⟩
end
end Go.Proofs.YtgomimhelgjddaaGreat

/- What the writers of numbers answer below 100: strconv.Itoa, l1Dec. -/
namespace Go.Proofs.YtgomimhelgjddaaGreat
open Go.ChangeShapes Go.WideShapes Go.ChangeAt Go.RowKit

theorem small_ba (b : ByteArray) (l : List UInt8) (h : b.data.toList = l) : b = ⟨l.toArray⟩ := by subst h; rfl

theorem conv_dig (W : World) (b : Nat) (x : Int) (q : Nat) (hq : q < 10) (hx : x = 48 + (q : Int)) (c : W.cell? ⟨b, 0, none⟩ = some (.int .u8 x)) : (convert 100 9 (.slice (some ⟨b, 0, none⟩) 1 1)).run Tryz.prog W = .ok (.string ⟨#[UInt8.ofNat (48 + q)]⟩) W := by
  have hn : (UInt8.ofNat (48 + q)).toNat = 48 + q := by simp; omega
  exact run_convert_bytes_back (P := Tryz.prog) W 100 9 5 ⟨b, 0, none⟩ 1 [UInt8.ofNat (48 + q)] Tryz.underlying100 Tryz.underlying5 Tryz.underlying9 (fun j hj => by
    have h0 : j = 0 := by simp at hj; omega
    subst h0
    simp only [List.getElem_cons_zero, hn]
    have : (Addr.add ⟨b, 0, none⟩ 0) = ⟨b, 0, none⟩ := rfl
    rw [this, c, hx]
    simp)

set_option maxHeartbeats 2000000 in
set_option maxRecDepth 20000 in
theorem l1Dec_one (i : Nat) (h : i < 10) (w : World) :
    Calls Tryz.prog 154 #[.int .i64 i] w fun e w' => e = .returned (.string ⟨(Lib.decDigits i).toArray⟩) ∧ Below w.heap.size w w' := by
  have hcv := conv_dig (w.alloc (.cells #[.int .u8 (48 + (i : Int))] 5)) w.heap.size (48 + (i : Int)) i h rfl (by simp [go_sem])
  have HD := hide (Lib.decDigits_one h)
  generalize UInt8.ofNat (48 + i) = d at hcv HD
  go_enter Tryz.func154, Tryz.ntmps154
  go_wp2_with fail
  go_ret
  refine ⟨?_, bel_alloc (Below.refl _ _) _⟩
  rw [HD.out]
  rfl

set_option maxHeartbeats 2000000 in
set_option maxRecDepth 20000 in
theorem l1Dec_two (i : Nat) (h0 : ¬ i < 10) (h : i < 100) (w : World) :
    Calls Tryz.prog 154 #[.int .i64 i] w fun e w' => e = .returned (.string ⟨(Lib.decDigits i).toArray⟩) ∧ Below w.heap.size w w' := by
  have HD := hide (Lib.decDigits_two h0 h)
  have HQ := hide (show ∀ W, Calls Tryz.prog 154 #[.int .i64 ((i : Int) / 10)] W fun e w' => e = .returned (.string ⟨#[UInt8.ofNat (48 + i / 10)]⟩) ∧ Below W.heap.size W w' from fun W => by
    rw [show ((i : Int) / 10) = ((i / 10 : Nat) : Int) by omega]
    have := l1Dec_one (i / 10) (by omega) W
    rw [Lib.decDigits_one (show i / 10 < 10 by omega)] at this
    exact this)
  have HC := hide (fun (W : World) (b : Nat) c => conv_dig W b (48 + (i : Int) % 10) (i % 10) (by omega) (by omega) c)
  generalize UInt8.ofNat (48 + i % 10) = d at HD HC
  generalize UInt8.ofNat (48 + i / 10) = d2 at HD HQ
  have hsz : (⟨#[d2]⟩ : ByteArray).size + (⟨#[d]⟩ : ByteArray).size ≤ 9223372036854775807 := by show 1 + 1 ≤ _; omega
  have hap : (⟨#[d2]⟩ : ByteArray) ++ ⟨#[d]⟩ = ⟨#[d2, d]⟩ := rfl
  have h0' : (10 : Int) ≤ i := by omega
  have q1 : IntKind.i64.wrap ((i : Int) / 10) = (i : Int) / 10 := by rw [IntKind.wrap_i64]; omega
  have q2 : (i : Int).tmod 10 = (i : Int) % 10 := by rw [Int.tmod_eq_emod_of_nonneg (by omega)]
  have q3 : IntKind.i64.wrap (48 + (i : Int) % 10) = 48 + (i : Int) % 10 := by rw [IntKind.wrap_i64]; omega
  have q4 : IntKind.u8.wrap (48 + (i : Int) % 10) = 48 + (i : Int) % 10 := by rw [IntKind.wrap_u8]; omega
  have h1' : (i : Int) < 100 := by omega
  clear h0 h
  go_enter Tryz.func154, Tryz.ntmps154
  go_wp2_with fail
  refine anyE_region (S := fun _ => True) (L := 10) (by kernel_rfl) ?_
  refine anyE_take 0 (v := ?v0) rfl (by kernel_rfl) (by kernel_rfl) (by kernel_rfl) (by kernel_rfl) (fun _ _ _ h => h) (by rfl) ?hy0 trivial ?rest0
  case hy0 =>
    intro wx hx
    go_simp
    try rfl
  case rest0 =>
  intro K hK
  go_simp
  refine hK.out _ ?_
  clear hK K
  refine anyE_take 1 (v := ?v1) rfl (by kernel_rfl) (by kernel_rfl) (by kernel_rfl) (by kernel_rfl) (fun _ _ _ h => h) (by rfl) ?hy1 trivial ?rest1
  case hy1 =>
    intro wx hx
    go_simp
    try rfl
  case rest1 =>
  intro K hK
  go_simp
  refine hK.out _ ?_
  clear hK K
  refine anyE_take 3 (v := ?v2) rfl (by kernel_rfl) (by kernel_rfl) (by kernel_rfl) (by kernel_rfl) (fun _ _ _ h => h) (by rfl) ?hy2 trivial ?rest2
  case hy2 =>
    intro wx hx
    go_simp
    try rfl
  case rest2 =>
  intro K hK
  go_simp
  refine hK.out _ ?_
  clear hK K
  refine anyE_take 4 (v := ?v3) rfl (by kernel_rfl) (by kernel_rfl) (by kernel_rfl) (by kernel_rfl) (fun _ _ _ h => h) (by rfl) ?hy3 trivial ?rest3
  case hy3 =>
    intro wx hx
    go_simp
    try rfl
  case rest3 =>
  intro K hK
  go_simp
  refine hK.out _ ?_
  clear hK K
  refine anyE_take 5 (v := ?v4) rfl (by kernel_rfl) (by kernel_rfl) (by kernel_rfl) (by kernel_rfl) (fun _ _ _ h => h) (by rfl) ?hy4 trivial ?rest4
  case hy4 =>
    intro wx hx
    go_simp
    try rfl
  case rest4 =>
  intro K hK
  go_simp
  refine hK.out _ ?_
  clear hK K
  refine anyE_take 6 (v := ?v5) rfl (by kernel_rfl) (by kernel_rfl) (by kernel_rfl) (by kernel_rfl) (fun _ _ _ h => h) (by rfl) ?hy5 trivial ?rest5
  case hy5 =>
    intro wx hx
    go_simp
    try rfl
  case rest5 =>
  intro K hK
  go_simp
  refine hK.out _ ?_
  clear hK K
  try simp only [q2, q3, q4]
  refine anyE_two 2 7 (by kernel_rfl) rfl rfl (fun K hK => ?_) (fun K hK => ?_)
  · go_simp
    try simp only [q1]
    refine (HQ.out _).mono ?_
    rintro e w1 ⟨rfl, hb1⟩
    refine hK.out _ _ (fun _ => trivial) ?_
    clear hK K
    refine anyE_one 7 (by kernel_rfl) rfl (fun K hK => ?_)
    go_simp
    refine hK.out _ _ (fun _ => trivial) ?_
    clear hK K
    refine anyE_one 8 (by kernel_rfl) rfl (fun K hK => ?_)
    go_simp
    rw [HC.out _ _ (by simp [go_sem])]
    go_simp
    refine hK.out _ _ (fun _ => trivial) ?_
    clear hK K
    refine anyE_one 9 (by kernel_rfl) rfl (fun K hK => ?_)
    go_simp
    try simp only [hap]
    refine hK.out _ _ (fun _ => trivial) ?_
    clear hK K
    refine anyE_one 10 (by kernel_rfl) rfl (fun K hK => ?_)
    go_simp
    refine hK.out _ _ (fun h => absurd rfl h) ?_
    clear hK K
    refine anyE_done (by kernel_rfl) ?_ _
    go_wp2_with fail
    go_ret
    refine ⟨?_, ((Below.refl w.heap.size w).drew.trans hb1).alloc (by have := hb1.size; simpa using this) _⟩
    rw [HD.out]
    rfl
  · go_simp
    refine hK.out _ _ (fun _ => trivial) ?_
    clear hK K
    have hc0 : ((w.alloc (.cells #[.int .u8 (48 + (i : Int) % 10)] 5)).drew).cell? ⟨w.heap.size, 0, none⟩ = some (.int .u8 (48 + (i : Int) % 10)) := by simp [go_sem]
    refine anyE_two 2 8 (by kernel_rfl) rfl rfl (fun K hK => ?_) (fun K hK => ?_)
    · go_simp
      try simp only [q1]
      refine (HQ.out _).mono ?_
      rintro e w1 ⟨rfl, hb1⟩
      refine hK.out _ _ (fun _ => trivial) ?_
      clear hK K
      have hc1 := keep_cell hb1 hc0
      refine anyE_one 8 (by kernel_rfl) rfl (fun K hK => ?_)
      go_simp
      rw [HC.out _ _ hc1]
      go_simp
      refine hK.out _ _ (fun _ => trivial) ?_
      clear hK K
      refine anyE_one 9 (by kernel_rfl) rfl (fun K hK => ?_)
      go_simp
      try simp only [hap]
      refine hK.out _ _ (fun _ => trivial) ?_
      clear hK K
      refine anyE_one 10 (by kernel_rfl) rfl (fun K hK => ?_)
      go_simp
      refine hK.out _ _ (fun h => absurd rfl h) ?_
      clear hK K
      refine anyE_done (by kernel_rfl) ?_ _
      go_wp2_with fail
      go_ret
      refine ⟨?_, (bel_alloc (Below.refl _ _) _).drew.trans (hb1.mono (by simp))⟩
      rw [HD.out]
      rfl

    · go_simp
      rw [HC.out _ _ hc0]
      go_simp
      refine hK.out _ _ (fun _ => trivial) ?_
      clear hK K
      refine anyE_one 2 (by kernel_rfl) rfl (fun K hK => ?_)
      go_simp
      try simp only [q1]
      refine (HQ.out _).mono ?_
      rintro e w1 ⟨rfl, hb1⟩
      refine hK.out _ _ (fun _ => trivial) ?_
      clear hK K
      refine anyE_one 9 (by kernel_rfl) rfl (fun K hK => ?_)
      go_simp
      try simp only [hap]
      refine hK.out _ _ (fun _ => trivial) ?_
      clear hK K
      refine anyE_one 10 (by kernel_rfl) rfl (fun K hK => ?_)
      go_simp
      refine hK.out _ _ (fun h => absurd rfl h) ?_
      clear hK K
      refine anyE_done (by kernel_rfl) ?_ _
      go_wp2_with fail
      go_ret
      refine ⟨?_, (bel_alloc (Below.refl _ _) _).drew.trans (hb1.mono (by simp))⟩
      rw [HD.out]
      rfl

theorem l1Dec_any (i : Nat) (h : i < 100) (w : World) :
    Calls Tryz.prog 154 #[.int .i64 i] w fun e w' => e = .returned (.string ⟨(Lib.decDigits i).toArray⟩) ∧ Below w.heap.size w w' := by
  by_cases h0 : i < 10
  · exact l1Dec_one i h0 w
  · exact l1Dec_two i h0 h w
end Go.Proofs.YtgomimhelgjddaaGreat
