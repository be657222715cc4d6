/- The program's writer of terms: what it holds, what may change beside it, and its put. -/
import Derived.Test.YtcagcfhnbphggaaGreatDoorParts
import Derived.Lib.OthersKept
import Derived.Lib.AppendStr
import Derived.Test.YtcagcfhnbphggaaGreatDoorTSpB
namespace Go.Proofs.YtcagcfhnbphggaaGreatDoor
open Go.ChangeShapes Go.WideShapes Go.ChangeAt Go.RowKit

def bC (bs : List UInt8) : List Value := bs.map fun b => Value.int .u8 b.toNat
theorem bC_len (bs : List UInt8) : (bC bs).length = bs.length := by simp [bC]
theorem bC_app (a b : List UInt8) : bC (a ++ b) = bC a ++ bC b := by simp [bC]
theorem Tryz.info5 : (Tryz.prog.info? 5).map (fun i => (i.zero, i.size, i.bytes)) = some (some (.int .u8 0), 1, 1) := by kernel_rfl
/-- The writer's block, with the text that it holds in a row of its own. -/
structure IsW (B wb : Nat) (nv : Value) (bs : List UInt8) (w : World) : Prop where
  blk : ∃ tv, w.heap[wb]? = some (.cells #[nv, tv] 46 (0, 0)) ∧ w.ownsRow B 5 1 tv bs.length (bC bs)
  lt : wb < B
  sz : B ≤ w.heap.size
/-- What a writer's steps may change. -/
structure FrW (wb : Nat) (w w' : World) : Prop where
  bel : Below wb w w'
  oth : Lib.OthersKept 5 (some wb) w w'
theorem FrW.refl (wb : Nat) (w : World) : FrW wb w w := ⟨Below.refl _ _, .refl _ _ _⟩
theorem FrW.trans {wb : Nat} {a b c : World} (h : FrW wb a b) (k : FrW wb b c) : FrW wb a c := ⟨h.bel.trans k.bel, h.oth.trans k.oth⟩
theorem oth_below {wb : Nat} {w w' : World} (hb : Below w.heap.size w w') : Lib.OthersKept 5 (some wb) w w' := fun k _ hk _ _ =>
  (hb.block k (Array.getElem?_eq_some_iff.1 hk).1).trans hk
theorem FrW.keep {wb : Nat} {w w' : World} (hb : Below w.heap.size w w') (hw : wb ≤ w.heap.size) : FrW wb w w' := ⟨hb.mono hw, oth_below hb⟩
theorem IsW.keep {B wb : Nat} {nv : Value} {bs : List UInt8} {w w' : World} (h : IsW B wb nv bs w) (hb : Below w.heap.size w w') : IsW B wb nv bs w' := by
  obtain ⟨⟨tv, h1, h2⟩, h3, h4⟩ := h
  exact ⟨⟨tv, (hb.block wb (Array.getElem?_eq_some_iff.1 h1).1).trans h1, h2.kept (⟨hb.os, hb.tape, hb.output, hb.size, fun k hk _ => hb.block k hk⟩ : w.grownBy w' none) (by cases hv : tv.ownBlock <;> simp)⟩, h3, Nat.le_trans h4 hb.size⟩
theorem IsW.wlt {B wb : Nat} {nv : Value} {bs : List UInt8} {w : World} (h : IsW B wb nv bs w) : wb < w.heap.size := Nat.lt_of_lt_of_le h.lt h.sz
/-- A block that holds something else than bytes, and is not the writer's. -/
def Else (wb : Nat) (o : Obj) (k : Nat) (w : World) : Prop := w.heap[k]? = some o ∧ k ≠ wb ∧ ∀ c fz, o ≠ .cells c 5 fz
theorem Else.fr {wb : Nat} {o : Obj} {k : Nat} {w w' : World} (h : Else wb o k w) (hf : FrW wb w w') : Else wb o k w' :=
  ⟨hf.oth k o h.1 (fun e => h.2.1 (Option.some.inj e)) h.2.2, h.2⟩
theorem Else.keep {wb : Nat} {o : Obj} {k : Nat} {w w' : World} (h : Else wb o k w) (hb : Below w.heap.size w w') : Else wb o k w' :=
  ⟨(hb.block k (Array.getElem?_eq_some_iff.1 h.1).1).trans h.1, h.2⟩
/-- Texts one behind the other. -/
def catB : List ByteArray → List UInt8
  | [] => []
  | s :: l => s.data.toList ++ catB l
theorem catB_take (l : List ByteArray) (j : Nat) (h : j < l.length) : catB (l.take (j + 1)) = catB (l.take j) ++ l[j].data.toList := by
  induction l generalizing j with
  | nil => simp at h
  | cons s l ih =>
    cases j with
    | zero => simp [catB]
    | succ j =>
      simp only [List.take_succ_cons, catB, List.getElem_cons_succ]
      rw [ih j (by simpa using h), List.append_assoc]
theorem catB_le (l : List ByteArray) (j : Nat) : (catB (l.take j)).length ≤ (catB l).length := by
  induction l generalizing j with
  | nil => simp
  | cons s l ih =>
    cases j with
    | zero => simp [catB]
    | succ j =>
      simp only [List.take_succ_cons, catB, List.length_append]
      have := ih j
      omega
theorem own_form {w : World} {base : Nat} {e : TypeId} {size : Nat} {v : Value} {n : Nat} {xs : List Value} (h : w.ownsRow base e size v n xs) : ∃ a cap, v = .slice a n cap := by
  rcases h.2 with ⟨rfl, rfl⟩ | ⟨g, cap, cur, rfl, _⟩
  · exact ⟨none, 0, rfl⟩
  · exact ⟨_, cap, rfl⟩
set_option maxRecDepth 20000 in
set_option maxHeartbeats 4000000 in
theorem put_any (B wb tb : Nat) (nv : Value) (bs : List UInt8) (ss : List ByteArray) (w : World) (h : IsW B wb nv bs w) (ht : Else wb (.cells (ss.map Value.string).toArray 9 (0, 0)) tb w) (hl : bs.length + (catB ss).length ≤ 1000000000) (hs : ss.length ≤ 1000) :
    Calls Tryz.prog 53 #[.pointer (some ⟨wb, 0, none⟩), .slice (some ⟨tb, 0, none⟩) ss.length ss.length] w fun e w' => (∃ v, e = .returned v) ∧ IsW B wb nv (bs ++ catB ss) w' ∧ FrW wb w w' := by
  obtain ⟨i5, hi5, hz5, hs5, hb5⟩ := info_parts Tryz.info5
  have H0 := hide h
  have HT := hide ht
  clear h ht
  go_enter Tryz.func53, Tryz.ntmps53
  go_wp2_with fail
  go_loopw [8] (fun iv wr => ∃ j : Nat, iv = .int .i64 j ∧ j ≤ ss.length ∧ Hid (IsW B wb nv (bs ++ catB (ss.take j)) wr) ∧ Hid (FrW wb w wr)) (fun iv _ => ss.length - (intOf iv).toNat)
  case atStart => exact ⟨0, rfl, by omega, by show IsW _ _ _ _ _; simpa [catB] using H0.out, FrW.refl _ _⟩
  case round =>
    obtain ⟨j, rfl, hj, HW, HF⟩ := hrel
    by_cases hlt : j < ss.length
    · have hlt' : (j : Int) < (ss.length : Int) := by omega
      have ct : wr.cell? ⟨tb, j, none⟩ = some (.string ss[j]) := by
        rw [cell_of_row _ _ _ _ _ _ (HT.out.fr HF.out).1]
        simp [hlt]
      have hle := catB_le ss (j + 1)
      rw [catB_take ss j hlt, List.length_append] at hle
      have HCT := hide (catB_take ss j hlt)
      obtain ⟨⟨tv, h1, h2⟩, h3, h4⟩ := HW.out
      have c1 : wr.cell? ⟨wb, 1, none⟩ = some tv := by rw [cell_of_row _ _ _ _ _ _ h1]; rfl
      have H1 := hide h1
      have H2 := hide h2
      have HSB : Hid (∀ g, tv.ownBlock = some g → ∃ c fz, wr.heap[g]? = some (.cells c 5 fz)) := fun g hg => by
        rcases h2.2 with ⟨rfl, _⟩ | ⟨g', cap, cur, rfl, _, hgg, _⟩
        · simp [Value.ownBlock] at hg
        · simp [Value.ownBlock] at hg
          subst hg
          exact ⟨cur, _, hgg⟩
      have HLT : Hid (∀ g, tv.ownBlock = some g → B ≤ g) := fun g hg => (World.ownsRow.lt h2 g hg).1
      clear h1 h2
      generalize ss[j] = s at *
      have hsz : s.data.toList.length = s.size := Array.length_toList
      rw [hsz] at hle
      have hbl : (bs ++ catB (ss.take j)).length + s.size ≤ 1000000000 := by rw [List.length_append]; omega
      generalize hbj : bs ++ catB (ss.take j) = bj at *
      go_wp2_with (first
        | (at_builtin
           refine Lib.wpList_append_own_string _ rfl _ _ 26 9 rfl B 5 i5 Tryz.underlying26 Tryz.underlying9 hi5 hz5 hs5 hb5 tv bj.length (bC bj) rfl H2.out s rfl (by unfold maxLen; omega) (by omega) h4 ?_
           intro v' w7 hown7 hgrow7 hn7
           obtain ⟨a7, c7, rfl⟩ := own_form hown7
           have hwb7 : w7.heap[wb]? = some (.cells #[nv, tv] 46 (0, 0)) := (hgrow7.block wb (Array.getElem?_eq_some_iff.1 H1.out).1 (fun e => by have := HLT.out wb e.symm; omega)).trans H1.out
           have k7 : w7.cell? ⟨wb, 1, none⟩ = some tv := by rw [cell_of_row _ _ _ _ _ _ hwb7]; rfl
           have f7 : w7.frozen? ⟨wb, 1, none⟩ = false := Lib.frozen_of_heap hwb7 1
           have HW7 := hide hwb7
           have HO7 := hide hown7
           have HG7 := hide hgrow7
           clear hwb7 hown7 hgrow7 hn7)
        | fail)
      have HW8 : Hid (IsW B wb nv (bs ++ catB (ss.take (j + 1))) (w7.setCell ⟨wb, 1, none⟩ (.slice a7 (bj.length + s.size) c7))) := by
        have hg8 : w7.grownBy (w7.setCell ⟨wb, 1, none⟩ (.slice a7 (bj.length + s.size) c7)) (some wb) := ⟨rfl, rfl, rfl, by simp, fun k _ hk => Below.heap_setCell _ _ _ k (fun e => hk (by rw [e]))⟩
        refine ⟨⟨_, heap_setCell_same w7 wb 1 _ 46 _ HW7.out, ?_⟩, h3, by have := HG7.out.size; simp; omega⟩
        rw [HCT.out, ← List.append_assoc, hbj, List.length_append, bC_app, hsz]
        exact HO7.out.kept hg8 (.inr (fun e => by have := (World.ownsRow.lt HO7.out wb e).1; omega))
      have HF8 : Hid (FrW wb w (w7.setCell ⟨wb, 1, none⟩ (.slice a7 (bj.length + s.size) c7))) :=
        ⟨((HF.out.bel).grown HG7.out (by omega) (fun g hg => by have := HLT.out g hg; omega)).setCell (p := ⟨_, _, _⟩) (Nat.le_refl wb) _, ((HF.out.oth).grown HG7.out HSB.out).setCell _ rfl _⟩
      clear HW7 HO7 HG7 HW HF
      go_wp2_with fail
      go_roundw
      case rel => exact ⟨j + 1, by go_num, by omega, HW8, HF8⟩
      case measure => simp [intOf]; omega
    · have hjl : j = ss.length := by omega
      subst hjl
      rw [List.take_length] at HW
      go_wp2_with fail
      exact bodyPost_end (results_none Tryz.results53 _ _ _) rfl ⟨⟨_, rfl⟩, HW.out, HF.out⟩
end Go.Proofs.YtcagcfhnbphggaaGreatDoor

/- What the specification's l3Make answers: a new node, with its size, how far its variables reach, and whether it has holes. -/
namespace Go.Proofs.YtcagcfhnbphggaaGreatDoor
open Go.ChangeShapes Go.WideShapes Go.ChangeAt Go.RowKit

/-- What is kept of a node: its size, how far its variables reach, whether it has holes. -/
structure Zs where
  sz : Int
  lo : Int
  ho : Bool
def tnL (k n m : Int) (s : ByteArray) (lv kv : Value) (z : Zs) : List Value := [.int .i64 k, .int .i64 n, .int .i64 m, .string s, lv, kv, .int .i64 z.sz, .int .i64 z.lo, .bool z.ho]
/-- A node's block. -/
def TnAt (base : Nat) (w : World) (g : Nat) (xs : List Value) : Prop := w.ownsRow base 66 9 (.slice (some ⟨g, 0, none⟩) 1 1) 1 xs
def SzAt (w : World) (p : Nat) (z : Zs) : Prop := ∃ k n m s lv kv, TnAt 0 w p (tnL k n m s lv kv z)
theorem TnAt.keep {base : Nat} {w w' : World} {g : Nat} {xs : List Value} (h : TnAt base w g xs) (hb : Below w.heap.size w w') : TnAt base w' g xs := row_keep hb h
theorem SzAt.keep {w w' : World} {p : Nat} {z : Zs} (h : SzAt w p z) (hb : Below w.heap.size w w') : SzAt w' p z := by
  obtain ⟨k, n, m, s, lv, kv, h⟩ := h
  exact ⟨k, n, m, s, lv, kv, h.keep hb⟩
theorem TnAt.base {base b2 : Nat} {w : World} {g : Nat} {xs : List Value} (h : TnAt base w g xs) (hb : b2 ≤ base) : TnAt b2 w g xs := by
  obtain ⟨h1, h2⟩ := h
  rcases h2 with ⟨h', _⟩ | ⟨g', cap', cur, h', h3, h4⟩
  · simp at h'
  · exact ⟨h1, .inr ⟨g', cap', cur, h', by omega, h4⟩⟩
theorem SzAt.cells {w : World} {p : Nat} {z : Zs} (h : SzAt w p z) : w.cell? ⟨p, 6, none⟩ = some (.int .i64 z.sz) ∧ w.cell? ⟨p, 7, none⟩ = some (.int .i64 z.lo) ∧ w.cell? ⟨p, 8, none⟩ = some (.bool z.ho) ∧ p < w.heap.size := by
  obtain ⟨k, n, m, s, lv, kv, h⟩ := h
  exact ⟨by rw [World.ownsRow.cellAt h 6 (by omega)]; rfl, by rw [World.ownsRow.cellAt h 7 (by omega)]; rfl, by rw [World.ownsRow.cellAt h 8 (by omega)]; rfl, (World.ownsRow.lt h p rfl).2⟩
def sumZ : List Zs → Int
  | [] => 0
  | z :: l => z.sz + sumZ l
theorem sumZ_append (a b : List Zs) : sumZ (a ++ b) = sumZ a + sumZ b := by
  induction a with
  | nil => simp [sumZ]
  | cons x a ih => simp only [List.cons_append, sumZ, ih]; omega
theorem sumZ_snoc (l : List Zs) (i : Nat) (h : i < l.length) : sumZ (l.take (i + 1)) = sumZ (l.take i) + l[i].sz := by
  rw [List.take_succ_eq_append_getElem h, sumZ_append]; simp [sumZ]
theorem sumZ_nonneg (l : List Zs) (h : ∀ z ∈ l, 1 ≤ z.sz) : (l.length : Int) ≤ sumZ l := by
  induction l with
  | nil => simp [sumZ]
  | cons x l ih =>
    simp only [sumZ, List.length_cons]
    have := h x (by simp)
    have := ih (fun z hz => h z (by simp [hz]))
    omega
theorem sumZ_le (l : List Zs) (h : ∀ z ∈ l, 1 ≤ z.sz) (i : Nat) : sumZ (l.take i) ≤ sumZ l := by
  have h1 := sumZ_append (l.take i) (l.drop i)
  rw [List.take_append_drop] at h1
  have h2 := sumZ_nonneg (l.drop i) (fun z hz => h z (List.mem_of_mem_drop hz))
  omega
def lastB (k : Int) (zs : List Zs) (j : Nat) : Bool := decide (j + 1 = zs.length) && bindsB k
def freeAt (k : Int) (zs : List Zs) (j : Nat) : Int := (zs.getD j ⟨0, 0, false⟩).lo - (if lastB k zs j then 1 else 0)
def loP (k n : Int) (zs : List Zs) : Nat → Int
  | 0 => if k = 1 then n + 1 else 0
  | j + 1 => max (loP k n zs j) (freeAt k zs j)
def hoP (k : Int) (zs : List Zs) (j : Nat) : Bool := (k == 9) || (zs.take j).any (·.ho)
/-- What is kept of a new node. -/
def zmk (k n : Int) (zs : List Zs) : Zs := ⟨1 + sumZ zs, loP k n zs zs.length, hoP k zs zs.length⟩
def ZOk (z : Zs) : Prop := 1 ≤ z.sz ∧ 0 ≤ z.lo ∧ z.lo ≤ 20001
theorem loP_bounds (k n : Int) (zs : List Zs) (h : ∀ z ∈ zs, ZOk z) (hn : k = 1 → 0 ≤ n ∧ n ≤ 20000) : ∀ j, 0 ≤ loP k n zs j ∧ loP k n zs j ≤ 20001
  | 0 => by
    unfold loP; split
    · next h1 => have := hn h1; omega
    · omega
  | j + 1 => by
    have ih := loP_bounds k n zs h hn j
    have h2 : (zs.getD j ⟨0, 0, false⟩).lo ≤ 20001 := by
      by_cases hj : j < zs.length
      · have := (h zs[j] (by simp)).2.2
        simpa [List.getD, hj] using this
      · simp [List.getD, hj]
    unfold loP freeAt
    split <;> omega
theorem zmk_ok (k n : Int) (zs : List Zs) (h : ∀ z ∈ zs, ZOk z) (hn : k = 1 → 0 ≤ n ∧ n ≤ 20000) : ZOk (zmk k n zs) := by
  have h1 := sumZ_nonneg zs (fun z hz => (h z hz).1)
  have h2 := loP_bounds k n zs h hn zs.length
  exact ⟨by unfold zmk; dsimp only; omega, h2.1, h2.2⟩
theorem hoP_succ (k : Int) (zs : List Zs) (j : Nat) (h : j < zs.length) : hoP k zs (j + 1) = (hoP k zs j || zs[j].ho) := by
  unfold hoP
  rw [List.take_succ_eq_append_getElem h, List.any_append]
  simp [Bool.or_assoc]
end Go.Proofs.YtcagcfhnbphggaaGreatDoor
