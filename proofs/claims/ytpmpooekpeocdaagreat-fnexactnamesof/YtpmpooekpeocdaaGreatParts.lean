/- The program's store of nodes: keys, and when two of them are the same. -/
import Derived.Test.YtpmpooekpeocdaaGreatTQ
import Derived.LaidEqlPtr
import Derived.Laws.StructEq
import Derived.MapKept
import Derived.Carry
import Derived.Test.YtpmpooekpeocdaaGreatStrs
import Derived.Lib.Strings
import Derived.Lib.Bytealg
namespace Go.Proofs.YtpmpooekpeocdaaGreat
open Go.ChangeShapes Go.WideShapes Go.ChangeAt Go.RowKit

/-- What tells a node from all others of its store. -/
structure Nk where
  k : Int
  n : Int
  m : Int
  s : ByteArray
  sp : ByteArray
  p0 : Option Nat
  p1 : Option Nat
  p2 : Option Nat
def pv : Option Nat → Value
  | none => .pointer none
  | some b => .pointer (some ⟨b, 0, none⟩)
def Nk.cells (q : Nk) : List Value := [.int .i64 q.k, .int .i64 q.n, .int .i64 q.m, .string q.s, .string q.sp, pv q.p0, pv q.p1, pv q.p2]
def Nk.val (q : Nk) : Value := .agg #[.int .i64 q.k, .int .i64 q.n, .int .i64 q.m, .string q.s, .string q.sp, pv q.p0, pv q.p1, pv q.p2]
/-- A pointer to a plain block. -/
def PtrOk (w : World) (p : Option Nat) : Prop := ∀ b, p = some b → ∃ cs t, w.heap[b]? = some (.cells cs t (0, 0))
theorem PtrOk.nil (w : World) : PtrOk w none := fun b h => by cases h
def KeyOk (w : World) (q : Nk) : Prop := PtrOk w q.p0 ∧ PtrOk w q.p1 ∧ PtrOk w q.p2

theorem eq_int (d : Nat) (a b : Int) (w : World) : (Op.equalIn (d + 1) 3 (.int .i64 a) (.int .i64 b)).run Tryz.prog w = .ok (a == b) w := by
  simp [Op.equalIn, run_underlying Tryz.underlying3]
theorem eq_str (d : Nat) (a b : ByteArray) (w : World) : (Op.equalIn (d + 1) 9 (.string a) (.string b)).run Tryz.prog w = .ok (a == b) w := by
  simp [Op.equalIn, run_underlying Tryz.underlying9]
theorem Tryz.info121 : (Tryz.prog.info? 121).map (fun i => (i.zero.isSome, i.size)) = some (true, 13) := by kernel_rfl
theorem eq_ptr (d : Nat) (a b : Option Nat) (w : World) (ha : PtrOk w a) (hb : PtrOk w b) : (Op.equalIn (d + 1) 61 (pv a) (pv b)).run Tryz.prog w = .ok (decide (a = b)) w := by
  obtain ⟨j, hj, hjs⟩ := Option.map_eq_some_iff.1 Tryz.info121
  have hj2 : j.size ≠ 0 := by simp at hjs; omega
  cases a with
  | none =>
    cases b with
    | none => simp [pv, Op.equalIn, run_underlying Tryz.underlying61]
    | some b => simp [pv, Op.equalIn, run_underlying Tryz.underlying61]
  | some a =>
    cases b with
    | none => simp [pv, Op.equalIn, run_underlying Tryz.underlying61]
    | some b =>
      by_cases e : a = b
      · subst e
        simp [pv, Op.equalIn, run_underlying Tryz.underlying61, sizeOf, typeInfo, hj, run_sameAddr_same]
      · obtain ⟨ca, ta, h1⟩ := ha a rfl
        obtain ⟨cb, tb, h2⟩ := hb b rfl
        have h3 := run_sameAddr_other (P := Tryz.prog) (w := w) (a := ⟨a, 0, none⟩) (b := ⟨b, 0, none⟩) (by simp) h1 h2
        simp [pv, Op.equalIn, run_underlying Tryz.underlying61, sizeOf, typeInfo, hj, hj2, h3, e]
theorem size43 (w : World) : (sizeOf 61).run Tryz.prog w = .ok 1 w := by kernel_rfl
theorem eq_arr (d : Nat) (a0 a1 a2 b0 b1 b2 : Option Nat) (w : World) (h0 : PtrOk w a0) (h1 : PtrOk w a1) (h2 : PtrOk w a2) (g0 : PtrOk w b0) (g1 : PtrOk w b1) (g2 : PtrOk w b2) :
    (Op.equalIn (d + 2) 116 (.agg #[pv a0, pv a1, pv a2]) (.agg #[pv b0, pv b1, pv b2])).run Tryz.prog w = .ok (decide (a0 = b0) && decide (a1 = b1) && decide (a2 = b2)) w := by
  have e0 := eq_ptr d a0 b0 w h0 g0
  have e1 := eq_ptr d a1 b1 w h1 g1
  have e2 := eq_ptr d a2 b2 w h2 g2
  generalize decide (a0 = b0) = r0 at *
  generalize decide (a1 = b1) = r1 at *
  generalize decide (a2 = b2) = r2 at *
  unfold Op.equalIn
  simp only [Sem.run_bind, run_underlying Tryz.underlying116, Result.andThen_ok, size43]
  simp only [Std.Legacy.Range.forIn_eq_forIn_range', Std.Legacy.Range.size, List.range', List.forIn_cons, List.forIn_nil, Sem.run_bind]
  cases r0 <;> cases r1 <;> cases r2 <;> simp [part, e0, e1, e2]
/-- Whether two keys are the same. -/
def keyB (q r : Nk) : Bool := (q.k == r.k) && ((q.n == r.n) && ((q.m == r.m) && ((q.s == r.s) && ((q.sp == r.sp) && (decide (q.p0 = r.p0) && decide (q.p1 = r.p1) && decide (q.p2 = r.p2))))))
theorem bytes_beq (a b : ByteArray) : (a == b) = true ↔ a = b := by
  rw [beq_toListBytes, beq_iff_eq, ByteArray.toList_eq, ByteArray.toList_eq]
  constructor
  · intro h
    obtain ⟨⟨x⟩⟩ := a
    obtain ⟨⟨y⟩⟩ := b
    simp at h
    rw [h]
  · intro h; rw [h]
theorem keyB_iff (q r : Nk) : keyB q r = true ↔ q = r := by
  cases q; cases r
  simp only [keyB, Bool.and_eq_true, beq_iff_eq, bytes_beq, decide_eq_true_eq, Nk.mk.injEq]
  constructor
  · rintro ⟨a, b, c, d, e, ⟨f, g⟩, h⟩; exact ⟨a, b, c, d, e, f, g, h⟩
  · rintro ⟨a, b, c, d, e, f, g, h⟩; exact ⟨a, b, c, d, e, ⟨f, g⟩, h⟩
theorem stood50 : Tryz.prog.stoodInHeld 118 = false := by kernel_rfl
theorem fields50 : Tryz.prog.underlying 118 = some (.struct (Tryz.prog.fieldsOf 118)) := by kernel_rfl
set_option maxHeartbeats 2000000 in
theorem eq_key (q r : Nk) (w : World) (hq : KeyOk w q) (hr : KeyOk w r) : (Op.equal 118 q.val r.val).run Tryz.prog w = .ok (keyB q r) w := by
  have e5 := eq_arr 9997 q.p0 q.p1 q.p2 r.p0 r.p1 r.p2 w hq.1 hq.2.1 hq.2.2 hr.1 hr.2.1 hr.2.2
  have i0 := eq_int 9998 q.k r.k w
  have i1 := eq_int 9998 q.n r.n w
  have i2 := eq_int 9998 q.m r.m w
  have s3 := eq_str 9998 q.s r.s w
  have s4 := eq_str 9998 q.sp r.sp w
  unfold keyB
  unfold Op.equal Op.maxDepth Nk.val
  rw [run_equalIn_struct w 9999 118 _ _ fields50 stood50]
  have hf : (Tryz.prog.fieldsOf 118).toList = [{ name := "kind", type := 3, offset := 0, embedded := false, tag := "", pkgPath := "loop.example/g00005/impl", byteOffset := 0 }, { name := "number", type := 3, offset := 1, embedded := false, tag := "", pkgPath := "loop.example/g00005/impl", byteOffset := 8 }, { name := "mode", type := 3, offset := 2, embedded := false, tag := "", pkgPath := "loop.example/g00005/impl", byteOffset := 16 }, { name := "name", type := 9, offset := 3, embedded := false, tag := "", pkgPath := "loop.example/g00005/impl", byteOffset := 24 }, { name := "spelt", type := 9, offset := 4, embedded := false, tag := "", pkgPath := "loop.example/g00005/impl", byteOffset := 40 }, { name := "kids", type := 116, offset := 5, embedded := false, tag := "", pkgPath := "loop.example/g00005/impl", byteOffset := 56 }] := by
    simp only [Program.fieldsOf, Tryz.underlying118]
  rw [hf]
  generalize (q.k == r.k) = c0 at *
  generalize (q.n == r.n) = c1 at *
  generalize (q.m == r.m) = c2 at *
  generalize (q.s == r.s) = c3 at *
  generalize (q.sp == r.sp) = c4 at *
  generalize (decide (q.p0 = r.p0) && decide (q.p1 = r.p1) && decide (q.p2 = r.p2)) = c5 at *
  cases c0
  · simp [Op.eqFields, part, i0]
  cases c1
  · simp [Op.eqFields, part, i0, i1]
  cases c2
  · simp [Op.eqFields, part, i0, i1, i2]
  cases c3
  · simp [Op.eqFields, part, i0, i1, i2, s3]
  cases c4
  · simp [Op.eqFields, part, i0, i1, i2, s3, s4]
  cases c5
  · simp [Op.eqFields, part, i0, i1, i2, s3, s4, e5]
  · simp [Op.eqFields, part, i0, i1, i2, s3, s4, e5]

/-- An entry of the map: a key, the block that it leads to, when it was made. -/
def ent (x : Nk × Nat × Nat) : MapEntry := ⟨x.1.val, .pointer (some ⟨x.2.1, 0, none⟩), x.2.2⟩
def findQ (q : Nk) : List (Nk × Nat × Nat) → Nat → Option (Nat × Value)
  | [], _ => none
  | x :: L, i => if keyB q x.1 = true then some (i, .pointer (some ⟨x.2.1, 0, none⟩)) else findQ q L (i + 1)
theorem findQ_some {q : Nk} : ∀ {L : List (Nk × Nat × Nat)} {i j : Nat} {v : Value}, findQ q L i = some (j, v) → ∃ x ∈ L, x.1 = q ∧ v = .pointer (some ⟨x.2.1, 0, none⟩)
  | [], _, _, _, h => by cases h
  | x :: L, i, j, v, h => by
    unfold findQ at h
    split at h
    · rename_i hk
      injection h with h
      injection h with h1 h2
      exact ⟨x, by simp, ((keyB_iff q x.1).1 hk).symm, h2.symm⟩
    · obtain ⟨y, h1, h2⟩ := findQ_some h
      exact ⟨y, by simp [h1], h2⟩
theorem findQ_none {q : Nk} : ∀ {L : List (Nk × Nat × Nat)} {i : Nat}, findQ q L i = none → ∀ x ∈ L, x.1 ≠ q
  | [], _, _ => by simp
  | x :: L, i, h => by
    unfold findQ at h
    split at h
    · cases h
    · rename_i hk
      intro y hy
      rcases List.mem_cons.1 hy with rfl | hy
      · intro e; exact hk ((keyB_iff q _).2 e.symm)
      · exact findQ_none h y hy
theorem run_findAsking (q : Nk) (w : World) (hq : KeyOk w q) : ∀ (L : List (Nk × Nat × Nat)) (i : Nat), (∀ x ∈ L, KeyOk w x.1) → (Instr.findAsking 118 q.val (L.map ent) i).run Tryz.prog w = .ok (findQ q L i) w
  | [], i, _ => rfl
  | x :: L, i, h => by
    have e := eq_key q x.1 w hq (h x (by simp))
    have ih := run_findAsking q w hq L (i + 1) (fun y hy => h y (by simp [hy]))
    unfold findQ
    simp only [List.map_cons, Instr.findAsking, Sem.run_bind]
    have e2 : (Op.equal 118 q.val (ent x).key).run Tryz.prog w = .ok (keyB q x.1) w := e
    rw [e2]
    cases hk : keyB q x.1
    · simpa using ih
    · simp [ent]
theorem run_find (q : Nk) (w : World) (hq : KeyOk w q) (L : List (Nk × Nat × Nat)) (h : ∀ x ∈ L, KeyOk w x.1) : (Instr.findKey 118 q.val (L.map ent)).run Tryz.prog w = .ok (findQ q L 0) w := by
  unfold Instr.findKey
  simp only [Sem.run_bind, run_underlying Tryz.underlying118, Result.andThen_ok]
  cases L with
  | nil => simp [Instr.findNow, findQ]
  | cons x L =>
    have h2 : ∀ fs, Instr.findNow (TypeDesc.struct fs) q.val (List.map ent (x :: L)) 0 = none := fun fs => by
      simp [Instr.findNow, Instr.sameNow, ent, Nk.val]
    rw [h2]
    exact run_findAsking q w hq (x :: L) 0 h
theorem check_key (q : Nk) (b : Bool) (w : World) : (Instr.checkKey b 10000 118 q.val).run Tryz.prog w = .ok () w := by
  have c3 : ∀ n u, (Instr.checkKey b (n + 1) 3 (.int .i64 u)).run Tryz.prog w = .ok () w := fun n u => by simp [Instr.checkKey, run_underlying Tryz.underlying3]
  have c9 : ∀ n u, (Instr.checkKey b (n + 1) 9 (.string u)).run Tryz.prog w = .ok () w := fun n u => by simp [Instr.checkKey, run_underlying Tryz.underlying9]
  have c43 : ∀ n u, (Instr.checkKey b (n + 1) 61 (pv u)).run Tryz.prog w = .ok () w := fun n u => by simp [Instr.checkKey, run_underlying Tryz.underlying61]
  have c48 : ∀ n, (Instr.checkKey b (n + 2) 116 (.agg #[pv q.p0, pv q.p1, pv q.p2])).run Tryz.prog w = .ok () w := fun n => by
    unfold Instr.checkKey
    simp only [Sem.run_bind, run_underlying Tryz.underlying116, Result.andThen_ok]
    simp only [Std.Legacy.Range.forIn_eq_forIn_range', Std.Legacy.Range.size, List.range', List.forIn_cons, List.forIn_nil, Sem.run_bind]
    simp [part, c43]
  unfold Instr.checkKey Nk.val
  simp only [Sem.run_bind, run_underlying Tryz.underlying118, Result.andThen_ok]
  simp [part, c3, c9, c48]
/-- The answer of a look-up. -/
def lookV : Option (Nat × Value) → Value
  | none => .tuple #[.pointer none, .bool false]
  | some (_, v) => .tuple #[v, .bool true]
theorem run_look (q : Nk) (mb clock : Nat) (L : List (Nk × Nat × Nat)) (w : World) (hq : KeyOk w q) (h : ∀ x ∈ L, KeyOk w x.1) (hm : w.heap[mb]? = some (.map (L.map ent).toArray clock)) :
    (Instr.lookup 139 (.map (some mb)) q.val true).run Tryz.prog w = .ok (lookV (findQ q L 0)) w := by
  have e := run_find q w hq L h
  have hg : (getObj mb).run Tryz.prog w = .ok (.map (L.map ent).toArray clock) w := by simp [getObj, Sem.run, hm]
  unfold Instr.lookup
  simp only [Sem.run_bind, run_underlying Tryz.underlying139, Result.andThen_ok, hg, Sem.run_pure, check_key]
  rw [e]
  cases findQ q L 0 with
  | none => simp [lookV]
  | some p => simp [lookV]
theorem run_put (q : Nk) (v : Value) (mb clock : Nat) (L : List (Nk × Nat × Nat)) (w : World) (hq : KeyOk w q) (h : ∀ x ∈ L, KeyOk w x.1) (hm : w.heap[mb]? = some (.map (L.map ent).toArray clock)) (hn : findQ q L 0 = none) :
    (Instr.mapUpdate 139 (.map (some mb)) q.val v).run Tryz.prog w = .ok () { w with heap := w.heap.setIfInBounds mb (.map ((L.map ent).toArray.push ⟨q.val, v, clock⟩) (clock + 1)) } := by
  have e := run_find q w hq L h
  have hg : (getObj mb).run Tryz.prog w = .ok (.map (L.map ent).toArray clock) w := by simp [getObj, Sem.run, hm]
  unfold Instr.mapUpdate
  simp only [Sem.run_bind, run_underlying Tryz.underlying139, Result.andThen_ok, hg, check_key]
  rw [e, hn]
  simp [setObj, Sem.run, hm]
end Go.Proofs.YtpmpooekpeocdaaGreat

/- What a valid term is, as a plain function of its nodes. No program is named here. -/
namespace Go.Proofs.YtpmpooekpeocdaaGreat

def tkidsN (k : Int) : Int := if k = 1 ∨ k = 2 ∨ k = 3 ∨ k = 9 then 0 else if k = 8 then 1 else if k = 4 ∨ k = 5 ∨ k = 6 then 2 else if k = 7 then 3 else -1
theorem tkidsN_cases (k : Int) : tkidsN k = -1 ∨ tkidsN k = 0 ∨ tkidsN k = 1 ∨ tkidsN k = 2 ∨ tkidsN k = 3 := by
  unfold tkidsN; split
  · simp
  · split
    · simp
    · split
      · simp
      · split <;> simp
theorem kind_cases (k : Int) : k = 1 ∨ k = 2 ∨ k = 3 ∨ k = 4 ∨ k = 5 ∨ k = 6 ∨ k = 7 ∨ k = 8 ∨ k = 9 ∨ (k < 1 ∨ 9 < k) := by omega
theorem tkidsN_neg (k : Int) (h : k < 1 ∨ 9 < k) : tkidsN k = -1 := by
  unfold tkidsN
  rw [if_neg (by omega), if_neg (by omega), if_neg (by omega), if_neg (by omega)]
def gN (k : Int) : Int := if k = 1 ∨ k = 8 then 20000 else if k = 9 then 1000000 else 0
def gM (k : Int) : Int := if k = 5 ∨ k = 6 then 2 else 0
def bindsB (k : Int) : Bool := decide (k = 5) || decide (k = 6) || decide (k = 7)
def tnameB (nameB : ByteArray → Bool) (td : Td) : Bool := if td.k = 3 ∨ td.k = 8 then nameB td.s else if bindsB td.k = true then shortB td.s else td.s.toList.isEmpty
def leastL (k : Int) : Int := if k = 2 then 1 else 0
def mostL (k : Int) : Int := if k = 2 then 1 else if k = 3 then 6 else 0
def tlevB (td : Td) : Bool := decide (leastL td.k ≤ td.lv.length) && decide ((td.lv.length : Int) ≤ mostL td.k) && td.lv.all lvlB
def numB (td : Td) : Bool := decide (0 ≤ td.n) && decide (td.n ≤ gN td.k)
def modeB (td : Td) : Bool := decide (0 ≤ td.m) && decide (td.m ≤ gM td.k)
def tfieldsB (nameB : ByteArray → Bool) (td : Td) : Bool := numB td && modeB td && tnameB nameB td && tlevB td

section
variable (fieldsB : Td → Bool)
/-- One node more: the roots of the stretches that have no parent yet. -/
def tstep (st : List Int) (i : Nat) (td : Td) : Option (List Int) :=
  if tkidsN td.k < 0 ∨ (st.length : Int) < tkidsN td.k ∨ fieldsB td = false ∨ td.kids ≠ st.drop (st.length - (tkidsN td.k).toNat) then none
  else some (st.take (st.length - (tkidsN td.k).toNat) ++ [(i : Int)])
def trun (ts : List Td) : Nat → Option (List Int)
  | 0 => some []
  | i + 1 => match trun ts i, ts[i]? with
    | some st, some td => tstep fieldsB st i td
    | _, _ => none
theorem trun_succ (ts : List Td) (i : Nat) (h : i < ts.length) (st : List Int) (hr : trun fieldsB ts i = some st) : trun fieldsB ts (i + 1) = tstep fieldsB st i ts[i] := by
  simp [trun, hr, h]
theorem trun_none (ts : List Td) (i j : Nat) (hij : i ≤ j) (h : trun fieldsB ts i = none) : trun fieldsB ts j = none := by
  induction j with
  | zero => have : i = 0 := by omega
            subst this; simp [trun] at h
  | succ j ih =>
    by_cases e : i = j + 1
    · subst e; exact h
    · simp [trun, ih (by omega)]
def termB' (ts : List Td) : Bool := decide (ts.length ≤ 20000) && (match trun fieldsB ts ts.length with | some st => decide (st.length = 1) | none => false)
theorem tstep_none {st : List Int} {i : Nat} {td : Td} (h : tkidsN td.k < 0 ∨ (st.length : Int) < tkidsN td.k ∨ fieldsB td = false ∨ td.kids ≠ st.drop (st.length - (tkidsN td.k).toNat)) : tstep fieldsB st i td = none := by rw [tstep, if_pos h]
theorem tstep_some {st : List Int} {i : Nat} {td : Td} (h1 : 0 ≤ tkidsN td.k) (h2 : tkidsN td.k ≤ st.length) (h3 : fieldsB td = true) (h4 : td.kids = st.drop (st.length - (tkidsN td.k).toNat)) :
    tstep fieldsB st i td = some (st.take (st.length - (tkidsN td.k).toNat) ++ [(i : Int)]) := by
  rw [tstep, if_neg]
  rintro (h | h | h | h)
  · omega
  · omega
  · rw [h3] at h; cases h
  · exact h h4
theorem term_false (ts : List Td) (i : Nat) (hi : i < ts.length) (st : List Int) (hr : trun fieldsB ts i = some st) (hs : tstep fieldsB st i ts[i] = none) : termB' fieldsB ts = false := by
  have h1 := trun_succ fieldsB ts i hi st hr
  rw [hs] at h1
  have h2 := trun_none fieldsB ts (i + 1) ts.length (by omega) h1
  simp [termB', h2]
end
end Go.Proofs.YtpmpooekpeocdaaGreat

/- Plain facts on lists of bytes: what a text's parts between dots are, and that cutting at the first dot, or going on byte by byte, gives them. No program is named here. -/
namespace Go.Proofs.YtpmpooekpeocdaaGreat

def parts : List UInt8 → List (List UInt8)
  | [] => [[]]
  | c :: l => if c = 46 then [] :: parts l else match parts l with | [] => [[c]] | p :: ps => (c :: p) :: ps

theorem parts_none : ∀ (l : List UInt8), 46 ∉ l → parts l = [l]
  | [], _ => rfl
  | c :: l, h => by
    have hc : ¬ c = 46 := fun e => h (by simp [e])
    have hl : 46 ∉ l := fun e => h (by simp [e])
    simp [parts, hc, parts_none l hl]
theorem parts_at : ∀ (a b : List UInt8), 46 ∉ a → parts (a ++ 46 :: b) = a :: parts b
  | [], b, _ => by simp [parts]
  | c :: a, b, h => by
    have hc : ¬ c = 46 := fun e => h (by simp [e])
    have hl : 46 ∉ a := fun e => h (by simp [e])
    simp [parts, hc, parts_at a b hl]
theorem parts_len : ∀ (l : List UInt8), (parts l).length ≤ l.length + 1
  | [] => by simp [parts]
  | c :: l => by
    have ih := parts_len l
    unfold parts
    split
    · simp; omega
    · split
      · simp
      · rename_i h; rw [h] at ih; simp at ih ⊢; omega

/-- Where a loop over the bytes stands: at byte k, the part at hand began at f, the parts ahead of it are ps. -/
def CutAt (L : List UInt8) (k f : Nat) (ps : List (List UInt8)) : Prop :=
  (k ≤ L.length ∧ f ≤ k ∧ 46 ∉ (L.drop f).take (k - f) ∧ parts L = ps ++ parts (L.drop f)) ∨ (k = L.length + 1 ∧ parts L = ps)
theorem cut_start (L : List UInt8) : CutAt L 0 0 [] := .inl ⟨Nat.zero_le _, Nat.le_refl _, by simp, by simp⟩
theorem cut_last {L : List UInt8} {f : Nat} {ps : List (List UInt8)} (h : CutAt L L.length f ps) : f ≤ L.length ∧ CutAt L (L.length + 1) (L.length + 1) (ps ++ [(L.drop f).take (L.length - f)]) := by
  rcases h with ⟨_, hf, hn, hp⟩ | ⟨h, _⟩
  · have e : (L.drop f).take (L.length - f) = L.drop f := List.take_of_length_le (by simp)
    refine ⟨hf, .inr ⟨rfl, ?_⟩⟩
    rw [e] at hn ⊢
    rw [hp, parts_none _ hn]
  · omega
theorem drop_split (L : List UInt8) (k f : Nat) (hk : k < L.length) (hf : f ≤ k) : L.drop f = (L.drop f).take (k - f) ++ L[k] :: L.drop (k + 1) := by
  have h1 : (L.drop f).drop (k - f) = L[k] :: L.drop (k + 1) := by
    rw [List.drop_drop, show f + (k - f) = k from by omega, List.drop_eq_getElem_cons hk]
  have h2 := List.take_append_drop (k - f) (L.drop f)
  rw [h1] at h2
  exact h2.symm
theorem cut_dot {L : List UInt8} {k f : Nat} {ps : List (List UInt8)} (hk : k < L.length) (h : CutAt L k f ps) (hc : L[k] = 46) : f ≤ k ∧ CutAt L (k + 1) (k + 1) (ps ++ [(L.drop f).take (k - f)]) := by
  rcases h with ⟨_, hf, hn, hp⟩ | ⟨h, _⟩
  · have e := drop_split L k f hk hf
    refine ⟨hf, .inl ⟨by omega, Nat.le_refl _, by simp, ?_⟩⟩
    rw [hc] at e
    have e2 : parts (L.drop f) = (L.drop f).take (k - f) :: parts (L.drop (k + 1)) := by
      conv => lhs; rw [e]
      exact parts_at _ _ hn
    rw [hp, e2]; simp
  · omega
theorem cut_byte {L : List UInt8} {k f : Nat} {ps : List (List UInt8)} (hk : k < L.length) (h : CutAt L k f ps) (hc : L[k] ≠ 46) : CutAt L (k + 1) f ps := by
  rcases h with ⟨_, hf, hn, hp⟩ | ⟨h, _⟩
  · refine .inl ⟨by omega, by omega, ?_, hp⟩
    have hl : k - f < (L.drop f).length := by simp; omega
    rw [show k + 1 - f = (k - f) + 1 from by omega, List.take_succ_eq_append_getElem hl]
    have : (L.drop f)[k - f] = L[k] := by simp [show f + (k - f) = k from by omega]
    rw [this]
    simp only [List.mem_append, List.mem_singleton, not_or]
    exact ⟨hn, fun e => hc e.symm⟩
  · omega
theorem cut_end {L : List UInt8} {f : Nat} {ps : List (List UInt8)} (h : CutAt L (L.length + 1) f ps) : parts L = ps := by
  rcases h with ⟨h, _⟩ | ⟨_, h⟩
  · omega
  · exact h

/-- The first dot, as the library's search tells it. -/
theorem index_miss : ∀ (l : List UInt8), Lib.indexByte l 46 < 0 → 46 ∉ l
  | [], _ => by simp
  | c :: l, h => by
    have hg := Lib.indexByte_ge l 46
    unfold Lib.indexByte at h
    split at h
    · omega
    · rename_i hc
      split at h
      · rename_i h1
        have := index_miss l (by have := beq_iff_eq.1 h1; omega)
        simp only [List.mem_cons, not_or]
        exact ⟨fun e => hc (by simp [e]), this⟩
      · rename_i h1
        have : Lib.indexByte l 46 ≠ -1 := fun e => h1 (by simp [e])
        omega
theorem index_hit : ∀ (l : List UInt8) (i : Nat), Lib.indexByte l 46 = i → i < l.length ∧ 46 ∉ l.take i ∧ l = l.take i ++ 46 :: l.drop (i + 1)
  | [], i, h => by simp [Lib.indexByte] at h
  | c :: l, i, h => by
    unfold Lib.indexByte at h
    split at h
    · rename_i hc
      have : c = 46 := by simpa using hc
      have : i = 0 := by omega
      subst this; subst c; simp
    · rename_i hc
      split at h
      · omega
      · rename_i h1
        obtain ⟨j, hj⟩ : ∃ j : Nat, Lib.indexByte l 46 = j := by
          have hg := Lib.indexByte_ge l 46
          have : Lib.indexByte l 46 ≠ -1 := fun e => h1 (by simp [e])
          exact ⟨(Lib.indexByte l 46).toNat, by omega⟩
        have : i = j + 1 := by omega
        subst this
        obtain ⟨a, b, c'⟩ := index_hit l j hj
        refine ⟨by simp; omega, ?_, ?_⟩
        · simp only [List.take_succ_cons, List.mem_cons, not_or]
          exact ⟨fun e => hc (by simp [e]), b⟩
        · simp only [List.take_succ_cons, List.drop_succ_cons, List.cons_append]
          rw [← c']
end Go.Proofs.YtpmpooekpeocdaaGreat
