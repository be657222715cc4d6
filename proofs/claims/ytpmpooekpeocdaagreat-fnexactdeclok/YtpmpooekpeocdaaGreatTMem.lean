/- A region that draws its order, whose own operations only read and whose callees write nothing below a block number, walked once in the order of the text. -/
import Derived.Test.YtpmpooekpeocdaaGreatFew
import Derived.Deep.QuietTactic
import Derived.BigQuiet
import Derived.LaidEqlPtr
import Derived.Laws.StructEq
import Derived.MapKept
import Derived.Carry
import Derived.Test.YtpmpooekpeocdaaGreatTo
namespace Go.Proofs.YtpmpooekpeocdaaGreat
open Go.ChangeShapes Go.WideShapes Go.ChangeAt Go.RowKit

/-- A world that is as w below block number B. -/
structure Bel (B : Nat) (w : World) where
  w' : World
  h : Below B w w'
theorem bel_ne (B : Nat) (w : World) : Nonempty (Bel B w) := ⟨⟨w, Below.refl B w⟩⟩
theorem wp_region_bel {P : Program} {id : Nat} {Q : Exit → Act → World → Prop} {a : Act} {w : World} {l : List Oper} (B : Nat) (hm : P.follows .mixedOrders = true) (hB : Region.lexB .any l.toArray = true)
    (h : wpQuiet P l.toArray (fun w' => ∃ p : Bel B w, w' = p.w') (fun a' => ∀ w', (∃ p : Bel B w, w' = p.w') → Q .normal a' w') l a) : (Code.region id l.toArray true).wp P Q a w :=
  wp_region_quiet (C := fun w' => ∃ p : Bel B w, w' = p.w') hm hB ⟨⟨w.drew, (Below.refl B w).drew⟩, rfl⟩ (by simpa using h)
theorem calls_bel {P : Program} {f : FuncId} {args : Array Value} {B : Nat} {w : World} {p : Bel B w} {v : Value} (hB : B ≤ w.heap.size)
    (h : Calls P f args p.w' fun e w' => e = .returned v ∧ Below p.w'.heap.size p.w' w') : Calls P f args p.w' fun e w'' => e = .returned v ∧ ∃ q : Bel B w, w'' = q.w' :=
  h.mono fun _ w'' ⟨he, hb⟩ => ⟨he, ⟨w'', p.h.trans (hb.mono (Nat.le_trans hB p.h.size))⟩, rfl⟩
theorem calls_bel_same {P : Program} {f : FuncId} {args : Array Value} {B : Nat} {w : World} {p : Bel B w} {v : Value}
    (h : Calls P f args p.w' fun e w' => e = .returned v ∧ w' = p.w') : Calls P f args p.w' fun e w'' => e = .returned v ∧ ∃ q : Bel B w, w'' = q.w' :=
  h.mono fun _ _ ⟨he, hb⟩ => ⟨he, p, hb⟩
theorem Bel.cell {B : Nat} {w : World} (p : Bel B w) {b o : Nat} {v : Value} (hb : b < B) (h : w.cell? ⟨b, o, none⟩ = some v) : p.w'.cell? ⟨b, o, none⟩ = some v := by
  rw [p.h.cell (p := ⟨b, o, none⟩) hb]; exact h
end Go.Proofs.YtpmpooekpeocdaaGreat

/- The program's store of nodes: keys, and when two of them are the same. -/
namespace Go.Proofs.YtpmpooekpeocdaaGreat
open Go.ChangeShapes Go.WideShapes Go.ChangeAt Go.RowKit

/-- What tells a node from all others of its store. -/
structure Nk where
  k : Int
  n : Int
  m : Int
  s : ByteArray
  sp : ByteArray
  p0 : Option Nat
  p1 : Option Nat
  p2 : Option Nat
def pv : Option Nat → Value
  | none => .pointer none
  | some b => .pointer (some ⟨b, 0, none⟩)
def Nk.cells (q : Nk) : List Value := [.int .i64 q.k, .int .i64 q.n, .int .i64 q.m, .string q.s, .string q.sp, pv q.p0, pv q.p1, pv q.p2]
def Nk.val (q : Nk) : Value := .agg #[.int .i64 q.k, .int .i64 q.n, .int .i64 q.m, .string q.s, .string q.sp, pv q.p0, pv q.p1, pv q.p2]
/-- A pointer to a plain block. -/
def PtrOk (w : World) (p : Option Nat) : Prop := ∀ b, p = some b → ∃ cs t, w.heap[b]? = some (.cells cs t (0, 0))
theorem PtrOk.nil (w : World) : PtrOk w none := fun b h => by cases h
def KeyOk (w : World) (q : Nk) : Prop := PtrOk w q.p0 ∧ PtrOk w q.p1 ∧ PtrOk w q.p2

theorem eq_int (d : Nat) (a b : Int) (w : World) : (Op.equalIn (d + 1) 3 (.int .i64 a) (.int .i64 b)).run Tryz.prog w = .ok (a == b) w := by
  simp [Op.equalIn, run_underlying Tryz.underlying3]
theorem eq_str (d : Nat) (a b : ByteArray) (w : World) : (Op.equalIn (d + 1) 9 (.string a) (.string b)).run Tryz.prog w = .ok (a == b) w := by
  simp [Op.equalIn, run_underlying Tryz.underlying9]
theorem Tryz.info121 : (Tryz.prog.info? 121).map (fun i => (i.zero.isSome, i.size)) = some (true, 13) := by kernel_rfl
theorem eq_ptr (d : Nat) (a b : Option Nat) (w : World) (ha : PtrOk w a) (hb : PtrOk w b) : (Op.equalIn (d + 1) 61 (pv a) (pv b)).run Tryz.prog w = .ok (decide (a = b)) w := by
  obtain ⟨j, hj, hjs⟩ := Option.map_eq_some_iff.1 Tryz.info121
  have hj2 : j.size ≠ 0 := by simp at hjs; omega
  cases a with
  | none =>
    cases b with
    | none => simp [pv, Op.equalIn, run_underlying Tryz.underlying61]
    | some b => simp [pv, Op.equalIn, run_underlying Tryz.underlying61]
  | some a =>
    cases b with
    | none => simp [pv, Op.equalIn, run_underlying Tryz.underlying61]
    | some b =>
      by_cases e : a = b
      · subst e
        simp [pv, Op.equalIn, run_underlying Tryz.underlying61, sizeOf, typeInfo, hj, run_sameAddr_same]
      · obtain ⟨ca, ta, h1⟩ := ha a rfl
        obtain ⟨cb, tb, h2⟩ := hb b rfl
        have h3 := run_sameAddr_other (P := Tryz.prog) (w := w) (a := ⟨a, 0, none⟩) (b := ⟨b, 0, none⟩) (by simp) h1 h2
        simp [pv, Op.equalIn, run_underlying Tryz.underlying61, sizeOf, typeInfo, hj, hj2, h3, e]
theorem size43 (w : World) : (sizeOf 61).run Tryz.prog w = .ok 1 w := by kernel_rfl
theorem eq_arr (d : Nat) (a0 a1 a2 b0 b1 b2 : Option Nat) (w : World) (h0 : PtrOk w a0) (h1 : PtrOk w a1) (h2 : PtrOk w a2) (g0 : PtrOk w b0) (g1 : PtrOk w b1) (g2 : PtrOk w b2) :
    (Op.equalIn (d + 2) 116 (.agg #[pv a0, pv a1, pv a2]) (.agg #[pv b0, pv b1, pv b2])).run Tryz.prog w = .ok (decide (a0 = b0) && decide (a1 = b1) && decide (a2 = b2)) w := by
  have e0 := eq_ptr d a0 b0 w h0 g0
  have e1 := eq_ptr d a1 b1 w h1 g1
  have e2 := eq_ptr d a2 b2 w h2 g2
  generalize decide (a0 = b0) = r0 at *
  generalize decide (a1 = b1) = r1 at *
  generalize decide (a2 = b2) = r2 at *
  unfold Op.equalIn
  simp only [Sem.run_bind, run_underlying Tryz.underlying116, Result.andThen_ok, size43]
  simp only [Std.Legacy.Range.forIn_eq_forIn_range', Std.Legacy.Range.size, List.range', List.forIn_cons, List.forIn_nil, Sem.run_bind]
  cases r0 <;> cases r1 <;> cases r2 <;> simp [part, e0, e1, e2]
/-- Whether two keys are the same. -/
def keyB (q r : Nk) : Bool := (q.k == r.k) && ((q.n == r.n) && ((q.m == r.m) && ((q.s == r.s) && ((q.sp == r.sp) && (decide (q.p0 = r.p0) && decide (q.p1 = r.p1) && decide (q.p2 = r.p2))))))
theorem bytes_beq (a b : ByteArray) : (a == b) = true ↔ a = b := by
  rw [beq_toListBytes, beq_iff_eq, ByteArray.toList_eq, ByteArray.toList_eq]
  constructor
  · intro h
    obtain ⟨⟨x⟩⟩ := a
    obtain ⟨⟨y⟩⟩ := b
    simp at h
    rw [h]
  · intro h; rw [h]
theorem keyB_iff (q r : Nk) : keyB q r = true ↔ q = r := by
  cases q; cases r
  simp only [keyB, Bool.and_eq_true, beq_iff_eq, bytes_beq, decide_eq_true_eq, Nk.mk.injEq]
  constructor
  · rintro ⟨a, b, c, d, e, ⟨f, g⟩, h⟩; exact ⟨a, b, c, d, e, f, g, h⟩
  · rintro ⟨a, b, c, d, e, f, g, h⟩; exact ⟨a, b, c, d, e, ⟨f, g⟩, h⟩
theorem stood50 : Tryz.prog.stoodInHeld 118 = false := by kernel_rfl
theorem fields50 : Tryz.prog.underlying 118 = some (.struct (Tryz.prog.fieldsOf 118)) := by kernel_rfl
set_option maxHeartbeats 2000000 in
theorem eq_key (q r : Nk) (w : World) (hq : KeyOk w q) (hr : KeyOk w r) : (Op.equal 118 q.val r.val).run Tryz.prog w = .ok (keyB q r) w := by
  have e5 := eq_arr 9997 q.p0 q.p1 q.p2 r.p0 r.p1 r.p2 w hq.1 hq.2.1 hq.2.2 hr.1 hr.2.1 hr.2.2
  have i0 := eq_int 9998 q.k r.k w
  have i1 := eq_int 9998 q.n r.n w
  have i2 := eq_int 9998 q.m r.m w
  have s3 := eq_str 9998 q.s r.s w
  have s4 := eq_str 9998 q.sp r.sp w
  unfold keyB
  unfold Op.equal Op.maxDepth Nk.val
  rw [run_equalIn_struct w 9999 118 _ _ fields50 stood50]
  have hf : (Tryz.prog.fieldsOf 118).toList = [{ name := "kind", type := 3, offset := 0, embedded := false, tag := "", pkgPath := "loop.example/g00005/impl", byteOffset := 0 }, { name := "number", type := 3, offset := 1, embedded := false, tag := "", pkgPath := "loop.example/g00005/impl", byteOffset := 8 }, { name := "mode", type := 3, offset := 2, embedded := false, tag := "", pkgPath := "loop.example/g00005/impl", byteOffset := 16 }, { name := "name", type := 9, offset := 3, embedded := false, tag := "", pkgPath := "loop.example/g00005/impl", byteOffset := 24 }, { name := "spelt", type := 9, offset := 4, embedded := false, tag := "", pkgPath := "loop.example/g00005/impl", byteOffset := 40 }, { name := "kids", type := 116, offset := 5, embedded := false, tag := "", pkgPath := "loop.example/g00005/impl", byteOffset := 56 }] := by
    simp only [Program.fieldsOf, Tryz.underlying118]
  rw [hf]
  generalize (q.k == r.k) = c0 at *
  generalize (q.n == r.n) = c1 at *
  generalize (q.m == r.m) = c2 at *
  generalize (q.s == r.s) = c3 at *
  generalize (q.sp == r.sp) = c4 at *
  generalize (decide (q.p0 = r.p0) && decide (q.p1 = r.p1) && decide (q.p2 = r.p2)) = c5 at *
  cases c0
  · simp [Op.eqFields, part, i0]
  cases c1
  · simp [Op.eqFields, part, i0, i1]
  cases c2
  · simp [Op.eqFields, part, i0, i1, i2]
  cases c3
  · simp [Op.eqFields, part, i0, i1, i2, s3]
  cases c4
  · simp [Op.eqFields, part, i0, i1, i2, s3, s4]
  cases c5
  · simp [Op.eqFields, part, i0, i1, i2, s3, s4, e5]
  · simp [Op.eqFields, part, i0, i1, i2, s3, s4, e5]

/-- An entry of the map: a key, the block that it leads to, when it was made. -/
def ent (x : Nk × Nat × Nat) : MapEntry := ⟨x.1.val, .pointer (some ⟨x.2.1, 0, none⟩), x.2.2⟩
def findQ (q : Nk) : List (Nk × Nat × Nat) → Nat → Option (Nat × Value)
  | [], _ => none
  | x :: L, i => if keyB q x.1 = true then some (i, .pointer (some ⟨x.2.1, 0, none⟩)) else findQ q L (i + 1)
theorem findQ_some {q : Nk} : ∀ {L : List (Nk × Nat × Nat)} {i j : Nat} {v : Value}, findQ q L i = some (j, v) → ∃ x ∈ L, x.1 = q ∧ v = .pointer (some ⟨x.2.1, 0, none⟩)
  | [], _, _, _, h => by cases h
  | x :: L, i, j, v, h => by
    unfold findQ at h
    split at h
    · rename_i hk
      injection h with h
      injection h with h1 h2
      exact ⟨x, by simp, ((keyB_iff q x.1).1 hk).symm, h2.symm⟩
    · obtain ⟨y, h1, h2⟩ := findQ_some h
      exact ⟨y, by simp [h1], h2⟩
theorem findQ_none {q : Nk} : ∀ {L : List (Nk × Nat × Nat)} {i : Nat}, findQ q L i = none → ∀ x ∈ L, x.1 ≠ q
  | [], _, _ => by simp
  | x :: L, i, h => by
    unfold findQ at h
    split at h
    · cases h
    · rename_i hk
      intro y hy
      rcases List.mem_cons.1 hy with rfl | hy
      · intro e; exact hk ((keyB_iff q _).2 e.symm)
      · exact findQ_none h y hy
theorem run_findAsking (q : Nk) (w : World) (hq : KeyOk w q) : ∀ (L : List (Nk × Nat × Nat)) (i : Nat), (∀ x ∈ L, KeyOk w x.1) → (Instr.findAsking 118 q.val (L.map ent) i).run Tryz.prog w = .ok (findQ q L i) w
  | [], i, _ => rfl
  | x :: L, i, h => by
    have e := eq_key q x.1 w hq (h x (by simp))
    have ih := run_findAsking q w hq L (i + 1) (fun y hy => h y (by simp [hy]))
    unfold findQ
    simp only [List.map_cons, Instr.findAsking, Sem.run_bind]
    have e2 : (Op.equal 118 q.val (ent x).key).run Tryz.prog w = .ok (keyB q x.1) w := e
    rw [e2]
    cases hk : keyB q x.1
    · simpa using ih
    · simp [ent]
theorem run_find (q : Nk) (w : World) (hq : KeyOk w q) (L : List (Nk × Nat × Nat)) (h : ∀ x ∈ L, KeyOk w x.1) : (Instr.findKey 118 q.val (L.map ent)).run Tryz.prog w = .ok (findQ q L 0) w := by
  unfold Instr.findKey
  simp only [Sem.run_bind, run_underlying Tryz.underlying118, Result.andThen_ok]
  cases L with
  | nil => simp [Instr.findNow, findQ]
  | cons x L =>
    have h2 : ∀ fs, Instr.findNow (TypeDesc.struct fs) q.val (List.map ent (x :: L)) 0 = none := fun fs => by
      simp [Instr.findNow, Instr.sameNow, ent, Nk.val]
    rw [h2]
    exact run_findAsking q w hq (x :: L) 0 h
theorem check_key (q : Nk) (b : Bool) (w : World) : (Instr.checkKey b 10000 118 q.val).run Tryz.prog w = .ok () w := by
  have c3 : ∀ n u, (Instr.checkKey b (n + 1) 3 (.int .i64 u)).run Tryz.prog w = .ok () w := fun n u => by simp [Instr.checkKey, run_underlying Tryz.underlying3]
  have c9 : ∀ n u, (Instr.checkKey b (n + 1) 9 (.string u)).run Tryz.prog w = .ok () w := fun n u => by simp [Instr.checkKey, run_underlying Tryz.underlying9]
  have c43 : ∀ n u, (Instr.checkKey b (n + 1) 61 (pv u)).run Tryz.prog w = .ok () w := fun n u => by simp [Instr.checkKey, run_underlying Tryz.underlying61]
  have c48 : ∀ n, (Instr.checkKey b (n + 2) 116 (.agg #[pv q.p0, pv q.p1, pv q.p2])).run Tryz.prog w = .ok () w := fun n => by
    unfold Instr.checkKey
    simp only [Sem.run_bind, run_underlying Tryz.underlying116, Result.andThen_ok]
    simp only [Std.Legacy.Range.forIn_eq_forIn_range', Std.Legacy.Range.size, List.range', List.forIn_cons, List.forIn_nil, Sem.run_bind]
    simp [part, c43]
  unfold Instr.checkKey Nk.val
  simp only [Sem.run_bind, run_underlying Tryz.underlying118, Result.andThen_ok]
  simp [part, c3, c9, c48]
/-- The answer of a look-up. -/
def lookV : Option (Nat × Value) → Value
  | none => .tuple #[.pointer none, .bool false]
  | some (_, v) => .tuple #[v, .bool true]
theorem run_look (q : Nk) (mb clock : Nat) (L : List (Nk × Nat × Nat)) (w : World) (hq : KeyOk w q) (h : ∀ x ∈ L, KeyOk w x.1) (hm : w.heap[mb]? = some (.map (L.map ent).toArray clock)) :
    (Instr.lookup 139 (.map (some mb)) q.val true).run Tryz.prog w = .ok (lookV (findQ q L 0)) w := by
  have e := run_find q w hq L h
  have hg : (getObj mb).run Tryz.prog w = .ok (.map (L.map ent).toArray clock) w := by simp [getObj, Sem.run, hm]
  unfold Instr.lookup
  simp only [Sem.run_bind, run_underlying Tryz.underlying139, Result.andThen_ok, hg, Sem.run_pure, check_key]
  rw [e]
  cases findQ q L 0 with
  | none => simp [lookV]
  | some p => simp [lookV]
theorem run_put (q : Nk) (v : Value) (mb clock : Nat) (L : List (Nk × Nat × Nat)) (w : World) (hq : KeyOk w q) (h : ∀ x ∈ L, KeyOk w x.1) (hm : w.heap[mb]? = some (.map (L.map ent).toArray clock)) (hn : findQ q L 0 = none) :
    (Instr.mapUpdate 139 (.map (some mb)) q.val v).run Tryz.prog w = .ok () { w with heap := w.heap.setIfInBounds mb (.map ((L.map ent).toArray.push ⟨q.val, v, clock⟩) (clock + 1)) } := by
  have e := run_find q w hq L h
  have hg : (getObj mb).run Tryz.prog w = .ok (.map (L.map ent).toArray clock) w := by simp [getObj, Sem.run, hm]
  unfold Instr.mapUpdate
  simp only [Sem.run_bind, run_underlying Tryz.underlying139, Result.andThen_ok, hg, check_key]
  rw [e, hn]
  simp [setObj, Sem.run, hm]
end Go.Proofs.YtpmpooekpeocdaaGreat

/- How a term lies in memory: a row of nodes, each three numbers, a text, a row of levels and a row of numbers; what was there stays so where nothing below is written; what is counted of a term. -/
namespace Go.Proofs.YtpmpooekpeocdaaGreat
open Go.ChangeShapes Go.WideShapes Go.ChangeAt Go.RowKit

/-- A node: its kind, its number, its mode, its text, its levels, its kids. -/
structure Td where
  k : Int
  n : Int
  m : Int
  s : ByteArray
  lv : List (List Nd)
  kids : List Int

def LevsAt (w : World) (v : Value) (ls : List (List Nd)) : Prop :=
  ∃ a cap, v = .slice a ls.length cap ∧ ls.length ≤ cap ∧ cap ≤ maxLen ∧
    (0 < ls.length → ∃ b off, a = some ⟨b, off, none⟩ ∧ ∀ i (h : i < ls.length), ∃ u, w.cell? ⟨b, off + i, none⟩ = some u ∧ NodesAt w u ls[i])
def TNodeAt (w : World) (b o : Nat) (td : Td) : Prop :=
  w.cell? ⟨b, o, none⟩ = some (.int .i64 td.k) ∧ w.cell? ⟨b, o + 1, none⟩ = some (.int .i64 td.n) ∧ w.cell? ⟨b, o + 2, none⟩ = some (.int .i64 td.m) ∧ w.cell? ⟨b, o + 3, none⟩ = some (.string td.s) ∧
    ∃ lv, w.cell? ⟨b, o + 4, none⟩ = some lv ∧ LevsAt w lv td.lv ∧ ∃ kv, w.cell? ⟨b, o + 5, none⟩ = some kv ∧ IntsAt w kv td.kids
def TNodesAt (w : World) (v : Value) (ts : List Td) : Prop :=
  ∃ a cap, v = .slice a ts.length cap ∧ ts.length ≤ cap ∧ cap ≤ maxLen ∧
    (0 < ts.length → ∃ b off, a = some ⟨b, off, none⟩ ∧ ∀ i (h : i < ts.length), TNodeAt w b (off + i * 6) ts[i])
/-- No text in it is too long for a string. -/
def LvLens (l : List Nd) : Prop := ∀ nd ∈ l, nd.s.size ≤ maxLen
def TLens (td : Td) : Prop := td.s.size ≤ maxLen ∧ ∀ l ∈ td.lv, LvLens l

theorem LevsAt.keep {w w' : World} (hb : Below w.heap.size w w') {v : Value} {ls : List (List Nd)} (h : LevsAt w v ls) : LevsAt w' v ls := by
  obtain ⟨a, cap, hv, h1, h2, h3⟩ := h
  refine ⟨a, cap, hv, h1, h2, fun h0 => ?_⟩
  obtain ⟨b, off, ha, hc⟩ := h3 h0
  refine ⟨b, off, ha, fun i h => ?_⟩
  obtain ⟨u, hu, hn⟩ := hc i h
  exact ⟨u, keep_cell hb hu, hn.keep hb⟩
theorem TNodeAt.keep {w w' : World} (hb : Below w.heap.size w w') {b o : Nat} {td : Td} (h : TNodeAt w b o td) : TNodeAt w' b o td := by
  obtain ⟨h1, h2, h3, h4, lv, h5, h6, kv, h7, h8⟩ := h
  exact ⟨keep_cell hb h1, keep_cell hb h2, keep_cell hb h3, keep_cell hb h4, lv, keep_cell hb h5, h6.keep hb, kv, keep_cell hb h7, h8.keep hb⟩
theorem TNodesAt.keep {w w' : World} (hb : Below w.heap.size w w') {v : Value} {ts : List Td} (h : TNodesAt w v ts) : TNodesAt w' v ts := by
  obtain ⟨a, cap, hv, h1, h2, h3⟩ := h
  refine ⟨a, cap, hv, h1, h2, fun h0 => ?_⟩
  obtain ⟨b, off, ha, hc⟩ := h3 h0
  exact ⟨b, off, ha, fun i h => (hc i h).keep hb⟩

/-- A sum over a list. -/
def sumL {α : Type} (f : α → Nat) : List α → Nat
  | [] => 0
  | x :: l => f x + sumL f l
theorem sumL_append {α : Type} (f : α → Nat) (a b : List α) : sumL f (a ++ b) = sumL f a + sumL f b := by
  induction a with
  | nil => simp [sumL]
  | cons x a ih => simp [sumL, ih]; omega
theorem sumL_snoc {α : Type} (f : α → Nat) (l : List α) (i : Nat) (h : i < l.length) : sumL f (l.take (i + 1)) = sumL f (l.take i) + f l[i] := by
  rw [List.take_succ_eq_append_getElem h, sumL_append]; simp [sumL]
theorem sumL_le {α : Type} (f : α → Nat) (l : List α) (i : Nat) : sumL f (l.take i) ≤ sumL f l := by
  conv => rhs; rw [← List.take_append_drop i l, sumL_append]
  omega
theorem sumL_mem {α : Type} (f : α → Nat) {l : List α} {x : α} (h : x ∈ l) : f x ≤ sumL f l := by
  induction l with
  | nil => cases h
  | cons y l ih =>
    simp only [sumL]
    rcases List.mem_cons.1 h with rfl | h2
    · omega
    · have := ih h2; omega
def lvSize (l : List Nd) : Nat := l.length + nsSum l
def tdSize (td : Td) : Nat := td.s.size + (td.lv.length + sumL lvSize td.lv) + td.kids.length
def tmSize (ts : List Td) : Nat := ts.length + sumL tdSize ts
end Go.Proofs.YtpmpooekpeocdaaGreat
