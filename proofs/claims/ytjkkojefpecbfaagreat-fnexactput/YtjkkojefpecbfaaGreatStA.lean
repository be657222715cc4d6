/- What the program's fewParams answers: whether at most six different parameters stand in the nodes. -/
import Derived.Test.YtjkkojefpecbfaaGreatStrs
import Derived.Deep.RegionWith
import Derived.Deep.QuietTactic
import Derived.BigQuiet
import Derived.LaidEqlPtr
import Derived.Laws.StructEq
import Derived.MapKept
import Derived.Carry
namespace Go.Proofs.YtjkkojefpecbfaaGreat
open Go.ChangeShapes Go.WideShapes Go.ChangeAt Go.RowKit

theorem bel_alloc {a w : World} (h : Below a.heap.size a w) (o : Obj) : Below a.heap.size a (w.alloc o) := h.alloc h.size o
theorem bel_trans {w w1 w2 : World} (h : Below w.heap.size w w1) (h2 : Below w1.heap.size w1 w2) : Below w.heap.size w w2 := h.trans (h2.mono h.size)
theorem size_set (w : World) (p : Addr) (u : Value) : (w.setCell p u).heap.size = w.heap.size := by simp [World.setCell]
theorem hide {p : Prop} (h : p) : Hid p := h
theorem unhide {p : Prop} (h : Hid p) : p := h
/-- The first texts of a row are these. -/
def Heads (xs : List Value) (ss : List ByteArray) : Prop := ∀ j (h : j < ss.length), xs[j]? = some (.string ss[j])
theorem heads_strs {w : World} {base R n cap : Nat} {e : TypeId} {xs : List Value} {ss : List ByteArray} (h : w.ownsRow base e 1 (.slice (some ⟨R, 0, none⟩) n cap) n xs) (hx : Heads xs ss) (hs : ss.length ≤ n) (c : Nat) (hc : ss.length ≤ c) (hm : c ≤ maxLen) :
    StrsAt w (.slice (some ⟨R, 0, none⟩) ss.length c) ss :=
  ⟨_, _, rfl, hc, hm, fun _ => ⟨R, 0, rfl, fun j hj => by rw [Nat.zero_add, h.cellAt j (by omega)]; exact hx j hj⟩⟩
theorem heads_put {xs : List Value} {ss : List ByteArray} (hx : Heads xs ss) (hl : ss.length < xs.length) (s : ByteArray) : Heads (xs.set ss.length (.string s)) (ss ++ [s]) := by
  intro j hj
  by_cases e : j = ss.length
  · subst e; rw [List.getElem?_set_self hl]; simp
  · rw [List.getElem?_set_ne (by omega), hx j (by simp at hj; omega), List.getElem_append_left (by simp at hj; omega)]

set_option maxHeartbeats 1000000 in
theorem fewParams_any (v : Value) (ns : List Nd) (w : World) (hns : NodesAt w v ns) (hsz : ∀ nd ∈ ns, nd.s.size ≤ maxLen) :
    Calls Tryz.prog 166 #[.agg #[v]] w fun e w' => e = .returned (.bool (decide ((namesOf ns).length ≤ 6))) ∧ Below w.heap.size w w' := by
  obtain ⟨a, cap, rfl, hl, hm, hc⟩ := hns
  unfold maxLen at hm
  have H : Hid (0 < ns.length → ∃ b off, a = some ⟨b, off, none⟩ ∧ ∀ i (h : i < ns.length), NodeAt w b (off + i * 3) ns[i]) := hc
  have HZ : Hid (∀ nd ∈ ns, nd.s.size ≤ maxLen) := hsz
  clear hc hsz
  have hst := World.ownsRow_lit (base := w.heap.size) (e := 239) (size := 1) (w.alloc (.cells #[.slice a ns.length cap] 111)) #[.string ⟨#[]⟩, .string ⟨#[]⟩, .string ⟨#[]⟩, .string ⟨#[]⟩, .string ⟨#[]⟩, .string ⟨#[]⟩] 6 (by simp) (by unfold maxLen; omega) rfl
  rw [World.size_alloc] at hst
  have HST := hide hst
  clear hst
  go_enter Tryz.func166, Tryz.ntmps166
  go_wp2_with fail
  go_loopw [4, 10] (fun c i wr => ∃ (k : Nat) (xs : List Value) (ss : List ByteArray), k ≤ ns.length ∧ i = .int .i64 k ∧ Hid (ss = namesOf (ns.take k)) ∧ ss.length ≤ 6 ∧ c = .int .i64 ss.length ∧ wr.ownsRow w.heap.size 239 1 (.slice (some ⟨w.heap.size + 1, 0, none⟩) 6 6) 6 xs ∧ Hid (Heads xs ss) ∧ w.heap.size + 1 < wr.heap.size ∧ Below w.heap.size w wr) (fun _ i _ => ns.length - (intOf i).toNat)
  case atStart => exact ⟨0, _, [], by omega, rfl, rfl, by simp, rfl, unhide HST, fun j h => by simp at h, by simp, ((Below.refl _ _).alloc (Nat.le_refl _) _).alloc (by simp) _⟩
  case round =>
    obtain ⟨k, xs, ss, hk, rfl, HS, h6, rfl, hown, HX, hz, hbel⟩ := hrel
    by_cases hlt : k < ns.length
    · obtain ⟨b, off, rfl, hc⟩ := H.out (by omega)
      obtain ⟨c1, c2, kv, c3, hkv⟩ := (hc k hlt).keep hbel
      have hsn := names_snoc ns k hlt
      rw [← HS.out] at hsn
      have hle := names_le ns (k + 1)
      rw [hsn] at hle
      have HSN : Hid (namesOf (ns.take (k + 1)) = addName ss ns[k]) := hsn
      have HLE : Hid ((addName ss ns[k]).length ≤ (namesOf ns).length) := hle
      obtain ⟨ka, kc, rfl, _, _, _⟩ := hkv
      clear hc H hsn hle
      generalize ns[k] = nd at *
      have hlt' : (k : Int) < ns.length := by omega
      by_cases h5 : nd.k = 5
      · have hq : (nd.k != 5) = false := by simp [h5]
        have HK5 : Hid (nd.k = 5) := h5
        clear h5
        have hstr := heads_strs hown HX.out h6 6 h6 (by unfold maxLen; omega)
        have hi6 : (ss.length : Int) ≤ 6 := by omega
        have hsl : ∀ W : World, (Instr.sliceAt 239 (.pointer (some ⟨w.heap.size + 1, 0, none⟩)) none (some (.int .i64 (ss.length : Int))) none).run Tryz.prog W = .ok (.slice (some ⟨w.heap.size + 1, 0, none⟩) ss.length 6) W := fun W => by
          rw [run_sliceAt_array_h W 239 ⟨w.heap.size + 1, 0, none⟩ (by kernel_rfl) .i64 _ (by omega) (by rw [show Tryz.prog.arrayLen 239 = 6 from by kernel_rfl]; omega)]
          simp [slicedAt, go_sem]
        cases hh : hasB ss nd.s
        · have HAD : Hid (addName ss nd = ss ++ [nd.s]) := by show _ = _; rw [addName, if_pos ⟨HK5.out, hh⟩]
          by_cases hfull : ss.length = 6
          · have HF : Hid (decide ((namesOf ns).length ≤ 6) = false) := by
              have := HLE.out
              rw [HAD.out] at this
              show _ = false
              simp at this ⊢; omega
            have hq6 : ((ss.length : Int) == 6) = true := by simp; omega
            clear hfull
            go_wp2_with fail
            go_region_with (go_at_call 194; refine (contains_any _ ss nd.s _ ?_).mono ?_; exact hstr.keep (by repeat (first | exact Below.refl _ _ | apply Below.drew | refine Below.alloc ?_ (Nat.le_refl _) _)); rintro e w1 ⟨rfl, rfl⟩)
            go_wp2_with fail
            go_ret
            exact ⟨ret_bool HF.out.symm, by repeat (first | exact hbel | apply Below.drew | refine Below.alloc ?_ hbel.size _)⟩
          · have hq6 : ((ss.length : Int) == 6) = false := by rw [beq_eq_false_iff_ne]; omega
            have hl6 : ss.length < 6 := by omega
            have hxl := hown.1
            have hf := hown.frozenAt ss.length
            have hcl := hown.cellAt ss.length (by omega)
            rw [List.getElem?_eq_getElem (by omega)] at hcl
            have HPUT := hide (heads_put HX.out (by omega) nd.s)
            have HNN : Hid (ss ++ [nd.s] = namesOf (ns.take (k + 1))) := by show _ = _; rw [HSN.out, HAD.out]
            clear hfull
            go_wp2_with fail
            go_region_with (go_at_call 194; refine (contains_any _ ss nd.s _ ?_).mono ?_; exact hstr.keep (by repeat (first | exact Below.refl _ _ | apply Below.drew | refine Below.alloc ?_ (Nat.le_refl _) _)); rintro e w1 ⟨rfl, rfl⟩)
            go_wp2_with fail
            go_roundw
            case rel => exact ⟨k + 1, _, ss ++ [nd.s], by omega, by go_num, HNN, by simp; omega, by simp, ((hown.stored ss.length (.string nd.s)).1.alloc _).drew, HPUT, by show _ < (World.alloc _ _).heap.size; rw [World.size_alloc, size_set]; omega, (bel_alloc (hbel.setCell (p := ⟨_, _, _⟩) (by show w.heap.size ≤ w.heap.size + 1; omega) _) _).drew⟩
            case measure => simp [intOf]; omega
        · have HAD : Hid (ss = namesOf (ns.take (k + 1))) := by show _ = _; rw [HSN.out, addName, if_neg (by simp [hh])]
          go_wp2_with fail
          go_region_with (go_at_call 194; refine (contains_any _ ss nd.s _ ?_).mono ?_; exact hstr.keep (by repeat (first | exact Below.refl _ _ | apply Below.drew | refine Below.alloc ?_ (Nat.le_refl _) _)); rintro e w1 ⟨rfl, rfl⟩)
          go_wp2_with fail
          go_roundw
          case rel => exact ⟨k + 1, xs, ss, by omega, by go_num, HAD, h6, rfl, (hown.alloc _).drew, HX, by show _ < (World.alloc _ _).heap.size; rw [World.size_alloc]; omega, (bel_alloc hbel _).drew⟩
          case measure => simp [intOf]; omega
      · have hq : (nd.k != 5) = true := by simp [h5]
        have HN : Hid (ss = namesOf (ns.take (k + 1))) := by show _ = _; rw [HSN.out, addName, if_neg (by simp [h5])]
        clear h5
        go_wp2_with fail
        go_region
        go_wp2_with fail
        go_roundw
        case rel => exact ⟨k + 1, xs, ss, by omega, by go_num, HN, h6, rfl, (hown.alloc _).drew, HX, by show _ < (World.alloc _ _).heap.size; rw [World.size_alloc]; omega, (bel_alloc hbel _).drew⟩
        case measure => simp [intOf]; omega
    · have HF : Hid (decide ((namesOf ns).length ≤ 6) = true) := by
        have := HS.out
        rw [List.take_of_length_le (by omega)] at this
        show _ = true
        rw [← this]; simp [h6]
      go_wp2_with fail
      go_ret
      exact ⟨ret_bool HF.out.symm, hbel⟩
end Go.Proofs.YtjkkojefpecbfaaGreat

/- A region that draws its order, whose own operations only read and whose callees write nothing below a block number, walked once in the order of the text. -/
namespace Go.Proofs.YtjkkojefpecbfaaGreat
open Go.ChangeShapes Go.WideShapes Go.ChangeAt Go.RowKit

/-- A world that is as w below block number B. -/
structure Bel (B : Nat) (w : World) where
  w' : World
  h : Below B w w'
theorem bel_ne (B : Nat) (w : World) : Nonempty (Bel B w) := ⟨⟨w, Below.refl B w⟩⟩
theorem wp_region_bel {P : Program} {id : Nat} {Q : Exit → Act → World → Prop} {a : Act} {w : World} {l : List Oper} (B : Nat) (hm : P.follows .mixedOrders = true) (hB : Region.lexB .any l.toArray = true)
    (h : wpQuiet P l.toArray (fun w' => ∃ p : Bel B w, w' = p.w') (fun a' => ∀ w', (∃ p : Bel B w, w' = p.w') → Q .normal a' w') l a) : (Code.region id l.toArray true).wp P Q a w :=
  wp_region_quiet (C := fun w' => ∃ p : Bel B w, w' = p.w') hm hB ⟨⟨w.drew, (Below.refl B w).drew⟩, rfl⟩ (by simpa using h)
theorem calls_bel {P : Program} {f : FuncId} {args : Array Value} {B : Nat} {w : World} {p : Bel B w} {v : Value} (hB : B ≤ w.heap.size)
    (h : Calls P f args p.w' fun e w' => e = .returned v ∧ Below p.w'.heap.size p.w' w') : Calls P f args p.w' fun e w'' => e = .returned v ∧ ∃ q : Bel B w, w'' = q.w' :=
  h.mono fun _ w'' ⟨he, hb⟩ => ⟨he, ⟨w'', p.h.trans (hb.mono (Nat.le_trans hB p.h.size))⟩, rfl⟩
theorem calls_bel_same {P : Program} {f : FuncId} {args : Array Value} {B : Nat} {w : World} {p : Bel B w} {v : Value}
    (h : Calls P f args p.w' fun e w' => e = .returned v ∧ w' = p.w') : Calls P f args p.w' fun e w'' => e = .returned v ∧ ∃ q : Bel B w, w'' = q.w' :=
  h.mono fun _ _ ⟨he, hb⟩ => ⟨he, p, hb⟩
theorem Bel.cell {B : Nat} {w : World} (p : Bel B w) {b o : Nat} {v : Value} (hb : b < B) (h : w.cell? ⟨b, o, none⟩ = some v) : p.w'.cell? ⟨b, o, none⟩ = some v := by
  rw [p.h.cell (p := ⟨b, o, none⟩) hb]; exact h
end Go.Proofs.YtjkkojefpecbfaaGreat

/- The program's store of nodes: keys, and when two of them are the same. -/
namespace Go.Proofs.YtjkkojefpecbfaaGreat
open Go.ChangeShapes Go.WideShapes Go.ChangeAt Go.RowKit

/-- What tells a node from all others of its store. -/
structure Nk where
  k : Int
  n : Int
  m : Int
  s : ByteArray
  sp : ByteArray
  p0 : Option Nat
  p1 : Option Nat
  p2 : Option Nat
def pv : Option Nat → Value
  | none => .pointer none
  | some b => .pointer (some ⟨b, 0, none⟩)
def Nk.cells (q : Nk) : List Value := [.int .i64 q.k, .int .i64 q.n, .int .i64 q.m, .string q.s, .string q.sp, pv q.p0, pv q.p1, pv q.p2]
def Nk.val (q : Nk) : Value := .agg #[.int .i64 q.k, .int .i64 q.n, .int .i64 q.m, .string q.s, .string q.sp, pv q.p0, pv q.p1, pv q.p2]
/-- A pointer to a plain block. -/
def PtrOk (w : World) (p : Option Nat) : Prop := ∀ b, p = some b → ∃ cs t, w.heap[b]? = some (.cells cs t (0, 0))
theorem PtrOk.nil (w : World) : PtrOk w none := fun b h => by cases h
def KeyOk (w : World) (q : Nk) : Prop := PtrOk w q.p0 ∧ PtrOk w q.p1 ∧ PtrOk w q.p2

theorem eq_int (d : Nat) (a b : Int) (w : World) : (Op.equalIn (d + 1) 3 (.int .i64 a) (.int .i64 b)).run Tryz.prog w = .ok (a == b) w := by
  simp [Op.equalIn, run_underlying Tryz.underlying3]
theorem eq_str (d : Nat) (a b : ByteArray) (w : World) : (Op.equalIn (d + 1) 9 (.string a) (.string b)).run Tryz.prog w = .ok (a == b) w := by
  simp [Op.equalIn, run_underlying Tryz.underlying9]
theorem Tryz.info131 : (Tryz.prog.info? 131).map (fun i => (i.zero.isSome, i.size)) = some (true, 13) := by kernel_rfl
theorem eq_ptr (d : Nat) (a b : Option Nat) (w : World) (ha : PtrOk w a) (hb : PtrOk w b) : (Op.equalIn (d + 1) 80 (pv a) (pv b)).run Tryz.prog w = .ok (decide (a = b)) w := by
  obtain ⟨j, hj, hjs⟩ := Option.map_eq_some_iff.1 Tryz.info131
  have hj2 : j.size ≠ 0 := by simp at hjs; omega
  cases a with
  | none =>
    cases b with
    | none => simp [pv, Op.equalIn, run_underlying Tryz.underlying80]
    | some b => simp [pv, Op.equalIn, run_underlying Tryz.underlying80]
  | some a =>
    cases b with
    | none => simp [pv, Op.equalIn, run_underlying Tryz.underlying80]
    | some b =>
      by_cases e : a = b
      · subst e
        simp [pv, Op.equalIn, run_underlying Tryz.underlying80, sizeOf, typeInfo, hj, run_sameAddr_same]
      · obtain ⟨ca, ta, h1⟩ := ha a rfl
        obtain ⟨cb, tb, h2⟩ := hb b rfl
        have h3 := run_sameAddr_other (P := Tryz.prog) (w := w) (a := ⟨a, 0, none⟩) (b := ⟨b, 0, none⟩) (by simp) h1 h2
        simp [pv, Op.equalIn, run_underlying Tryz.underlying80, sizeOf, typeInfo, hj, hj2, h3, e]
theorem size43 (w : World) : (sizeOf 80).run Tryz.prog w = .ok 1 w := by kernel_rfl
theorem eq_arr (d : Nat) (a0 a1 a2 b0 b1 b2 : Option Nat) (w : World) (h0 : PtrOk w a0) (h1 : PtrOk w a1) (h2 : PtrOk w a2) (g0 : PtrOk w b0) (g1 : PtrOk w b1) (g2 : PtrOk w b2) :
    (Op.equalIn (d + 2) 127 (.agg #[pv a0, pv a1, pv a2]) (.agg #[pv b0, pv b1, pv b2])).run Tryz.prog w = .ok (decide (a0 = b0) && decide (a1 = b1) && decide (a2 = b2)) w := by
  have e0 := eq_ptr d a0 b0 w h0 g0
  have e1 := eq_ptr d a1 b1 w h1 g1
  have e2 := eq_ptr d a2 b2 w h2 g2
  generalize decide (a0 = b0) = r0 at *
  generalize decide (a1 = b1) = r1 at *
  generalize decide (a2 = b2) = r2 at *
  unfold Op.equalIn
  simp only [Sem.run_bind, run_underlying Tryz.underlying127, Result.andThen_ok, size43]
  simp only [Std.Legacy.Range.forIn_eq_forIn_range', Std.Legacy.Range.size, List.range', List.forIn_cons, List.forIn_nil, Sem.run_bind]
  cases r0 <;> cases r1 <;> cases r2 <;> simp [part, e0, e1, e2]
/-- Whether two keys are the same. -/
def keyB (q r : Nk) : Bool := (q.k == r.k) && ((q.n == r.n) && ((q.m == r.m) && ((q.s == r.s) && ((q.sp == r.sp) && (decide (q.p0 = r.p0) && decide (q.p1 = r.p1) && decide (q.p2 = r.p2))))))
theorem bytes_beq (a b : ByteArray) : (a == b) = true ↔ a = b := by
  rw [beq_toListBytes, beq_iff_eq, ByteArray.toList_eq, ByteArray.toList_eq]
  constructor
  · intro h
    obtain ⟨⟨x⟩⟩ := a
    obtain ⟨⟨y⟩⟩ := b
    simp at h
    rw [h]
  · intro h; rw [h]
theorem keyB_iff (q r : Nk) : keyB q r = true ↔ q = r := by
  cases q; cases r
  simp only [keyB, Bool.and_eq_true, beq_iff_eq, bytes_beq, decide_eq_true_eq, Nk.mk.injEq]
  constructor
  · rintro ⟨a, b, c, d, e, ⟨f, g⟩, h⟩; exact ⟨a, b, c, d, e, f, g, h⟩
  · rintro ⟨a, b, c, d, e, f, g, h⟩; exact ⟨a, b, c, d, e, ⟨f, g⟩, h⟩
theorem stood50 : Tryz.prog.stoodInHeld 129 = false := by kernel_rfl
theorem fields50 : Tryz.prog.underlying 129 = some (.struct (Tryz.prog.fieldsOf 129)) := by kernel_rfl
set_option maxHeartbeats 2000000 in
theorem eq_key (q r : Nk) (w : World) (hq : KeyOk w q) (hr : KeyOk w r) : (Op.equal 129 q.val r.val).run Tryz.prog w = .ok (keyB q r) w := by
  have e5 := eq_arr 9997 q.p0 q.p1 q.p2 r.p0 r.p1 r.p2 w hq.1 hq.2.1 hq.2.2 hr.1 hr.2.1 hr.2.2
  have i0 := eq_int 9998 q.k r.k w
  have i1 := eq_int 9998 q.n r.n w
  have i2 := eq_int 9998 q.m r.m w
  have s3 := eq_str 9998 q.s r.s w
  have s4 := eq_str 9998 q.sp r.sp w
  unfold keyB
  unfold Op.equal Op.maxDepth Nk.val
  rw [run_equalIn_struct w 9999 129 _ _ fields50 stood50]
  have hf : (Tryz.prog.fieldsOf 129).toList = [{ name := "kind", type := 3, offset := 0, embedded := false, tag := "", pkgPath := "loop.example/g00005/impl", byteOffset := 0 }, { name := "number", type := 3, offset := 1, embedded := false, tag := "", pkgPath := "loop.example/g00005/impl", byteOffset := 8 }, { name := "mode", type := 3, offset := 2, embedded := false, tag := "", pkgPath := "loop.example/g00005/impl", byteOffset := 16 }, { name := "name", type := 9, offset := 3, embedded := false, tag := "", pkgPath := "loop.example/g00005/impl", byteOffset := 24 }, { name := "spelt", type := 9, offset := 4, embedded := false, tag := "", pkgPath := "loop.example/g00005/impl", byteOffset := 40 }, { name := "kids", type := 127, offset := 5, embedded := false, tag := "", pkgPath := "loop.example/g00005/impl", byteOffset := 56 }] := by
    simp only [Program.fieldsOf, Tryz.underlying129]
  rw [hf]
  generalize (q.k == r.k) = c0 at *
  generalize (q.n == r.n) = c1 at *
  generalize (q.m == r.m) = c2 at *
  generalize (q.s == r.s) = c3 at *
  generalize (q.sp == r.sp) = c4 at *
  generalize (decide (q.p0 = r.p0) && decide (q.p1 = r.p1) && decide (q.p2 = r.p2)) = c5 at *
  cases c0
  · simp [Op.eqFields, part, i0]
  cases c1
  · simp [Op.eqFields, part, i0, i1]
  cases c2
  · simp [Op.eqFields, part, i0, i1, i2]
  cases c3
  · simp [Op.eqFields, part, i0, i1, i2, s3]
  cases c4
  · simp [Op.eqFields, part, i0, i1, i2, s3, s4]
  cases c5
  · simp [Op.eqFields, part, i0, i1, i2, s3, s4, e5]
  · simp [Op.eqFields, part, i0, i1, i2, s3, s4, e5]

/-- An entry of the map: a key, the block that it leads to, when it was made. -/
def ent (x : Nk × Nat × Nat) : MapEntry := ⟨x.1.val, .pointer (some ⟨x.2.1, 0, none⟩), x.2.2⟩
def findQ (q : Nk) : List (Nk × Nat × Nat) → Nat → Option (Nat × Value)
  | [], _ => none
  | x :: L, i => if keyB q x.1 = true then some (i, .pointer (some ⟨x.2.1, 0, none⟩)) else findQ q L (i + 1)
theorem findQ_some {q : Nk} : ∀ {L : List (Nk × Nat × Nat)} {i j : Nat} {v : Value}, findQ q L i = some (j, v) → ∃ x ∈ L, x.1 = q ∧ v = .pointer (some ⟨x.2.1, 0, none⟩)
  | [], _, _, _, h => by cases h
  | x :: L, i, j, v, h => by
    unfold findQ at h
    split at h
    · rename_i hk
      injection h with h
      injection h with h1 h2
      exact ⟨x, by simp, ((keyB_iff q x.1).1 hk).symm, h2.symm⟩
    · obtain ⟨y, h1, h2⟩ := findQ_some h
      exact ⟨y, by simp [h1], h2⟩
theorem findQ_none {q : Nk} : ∀ {L : List (Nk × Nat × Nat)} {i : Nat}, findQ q L i = none → ∀ x ∈ L, x.1 ≠ q
  | [], _, _ => by simp
  | x :: L, i, h => by
    unfold findQ at h
    split at h
    · cases h
    · rename_i hk
      intro y hy
      rcases List.mem_cons.1 hy with rfl | hy
      · intro e; exact hk ((keyB_iff q _).2 e.symm)
      · exact findQ_none h y hy
theorem run_findAsking (q : Nk) (w : World) (hq : KeyOk w q) : ∀ (L : List (Nk × Nat × Nat)) (i : Nat), (∀ x ∈ L, KeyOk w x.1) → (Instr.findAsking 129 q.val (L.map ent) i).run Tryz.prog w = .ok (findQ q L i) w
  | [], i, _ => rfl
  | x :: L, i, h => by
    have e := eq_key q x.1 w hq (h x (by simp))
    have ih := run_findAsking q w hq L (i + 1) (fun y hy => h y (by simp [hy]))
    unfold findQ
    simp only [List.map_cons, Instr.findAsking, Sem.run_bind]
    have e2 : (Op.equal 129 q.val (ent x).key).run Tryz.prog w = .ok (keyB q x.1) w := e
    rw [e2]
    cases hk : keyB q x.1
    · simpa using ih
    · simp [ent]
theorem run_find (q : Nk) (w : World) (hq : KeyOk w q) (L : List (Nk × Nat × Nat)) (h : ∀ x ∈ L, KeyOk w x.1) : (Instr.findKey 129 q.val (L.map ent)).run Tryz.prog w = .ok (findQ q L 0) w := by
  unfold Instr.findKey
  simp only [Sem.run_bind, run_underlying Tryz.underlying129, Result.andThen_ok]
  cases L with
  | nil => simp [Instr.findNow, findQ]
  | cons x L =>
    have h2 : ∀ fs, Instr.findNow (TypeDesc.struct fs) q.val (List.map ent (x :: L)) 0 = none := fun fs => by
      simp [Instr.findNow, Instr.sameNow, ent, Nk.val]
    rw [h2]
    exact run_findAsking q w hq (x :: L) 0 h
theorem check_key (q : Nk) (b : Bool) (w : World) : (Instr.checkKey b 10000 129 q.val).run Tryz.prog w = .ok () w := by
  have c3 : ∀ n u, (Instr.checkKey b (n + 1) 3 (.int .i64 u)).run Tryz.prog w = .ok () w := fun n u => by simp [Instr.checkKey, run_underlying Tryz.underlying3]
  have c9 : ∀ n u, (Instr.checkKey b (n + 1) 9 (.string u)).run Tryz.prog w = .ok () w := fun n u => by simp [Instr.checkKey, run_underlying Tryz.underlying9]
  have c43 : ∀ n u, (Instr.checkKey b (n + 1) 80 (pv u)).run Tryz.prog w = .ok () w := fun n u => by simp [Instr.checkKey, run_underlying Tryz.underlying80]
  have c48 : ∀ n, (Instr.checkKey b (n + 2) 127 (.agg #[pv q.p0, pv q.p1, pv q.p2])).run Tryz.prog w = .ok () w := fun n => by
    unfold Instr.checkKey
    simp only [Sem.run_bind, run_underlying Tryz.underlying127, Result.andThen_ok]
    simp only [Std.Legacy.Range.forIn_eq_forIn_range', Std.Legacy.Range.size, List.range', List.forIn_cons, List.forIn_nil, Sem.run_bind]
    simp [part, c43]
  unfold Instr.checkKey Nk.val
  simp only [Sem.run_bind, run_underlying Tryz.underlying129, Result.andThen_ok]
  simp [part, c3, c9, c48]
/-- The answer of a look-up. -/
def lookV : Option (Nat × Value) → Value
  | none => .tuple #[.pointer none, .bool false]
  | some (_, v) => .tuple #[v, .bool true]
theorem run_look (q : Nk) (mb clock : Nat) (L : List (Nk × Nat × Nat)) (w : World) (hq : KeyOk w q) (h : ∀ x ∈ L, KeyOk w x.1) (hm : w.heap[mb]? = some (.map (L.map ent).toArray clock)) :
    (Instr.lookup 146 (.map (some mb)) q.val true).run Tryz.prog w = .ok (lookV (findQ q L 0)) w := by
  have e := run_find q w hq L h
  have hg : (getObj mb).run Tryz.prog w = .ok (.map (L.map ent).toArray clock) w := by simp [getObj, Sem.run, hm]
  unfold Instr.lookup
  simp only [Sem.run_bind, run_underlying Tryz.underlying146, Result.andThen_ok, hg, Sem.run_pure, check_key]
  rw [e]
  cases findQ q L 0 with
  | none => simp [lookV]
  | some p => simp [lookV]
theorem run_put (q : Nk) (v : Value) (mb clock : Nat) (L : List (Nk × Nat × Nat)) (w : World) (hq : KeyOk w q) (h : ∀ x ∈ L, KeyOk w x.1) (hm : w.heap[mb]? = some (.map (L.map ent).toArray clock)) (hn : findQ q L 0 = none) :
    (Instr.mapUpdate 146 (.map (some mb)) q.val v).run Tryz.prog w = .ok () { w with heap := w.heap.setIfInBounds mb (.map ((L.map ent).toArray.push ⟨q.val, v, clock⟩) (clock + 1)) } := by
  have e := run_find q w hq L h
  have hg : (getObj mb).run Tryz.prog w = .ok (.map (L.map ent).toArray clock) w := by simp [getObj, Sem.run, hm]
  unfold Instr.mapUpdate
  simp only [Sem.run_bind, run_underlying Tryz.underlying146, Result.andThen_ok, hg, check_key]
  rw [e, hn]
  simp [setObj, Sem.run, hm]
end Go.Proofs.YtjkkojefpecbfaaGreat
