/- The text that spells a list of levels: what the program's spelling answers. -/
import Derived.Test.YtpmpooekpeocdaaGreatStrs
import Derived.Test.YtpmpooekpeocdaaGreatTQ
import Derived.Ground.NamesProg
import Derived.Shelf.Lay
import Derived.Shelf.Lays
import Derived.Shelf.Strings.BuilderK
import Derived.Deep.Upon
import Derived.Deep.CutRange
import Derived.Test.YtpmpooekpeocdaaGreatStD
import Derived.LaidEqlPtr
namespace Go.Proofs
open Go.Shelf Go.Lib Go.RowKit
shelf_lay Lays.n169 Nm 169 at Tryz as Tryz.lays169
/-- The numbers of strings.Builder's closure in this program. -/
def renB : Ren := ⟨fun | 167 => 183 | 166 => 184 | 240 => 218 | 276 => 253 | n => n, fun | 72 => 256 | 70 => 254 | 37 => 148 | 164 => 325 | 75 => 258 | 80 => 262 | 127 => 287 | n => n, fun n => n⟩
theorem Tryz.lays166 : Lays.n166 Tryz.prog renB where
  mixed := by kernel_rfl
  f166 := Tryz.func184.trans (congrArg some (by kernel_rfl))
  f240 := Tryz.func218.trans (congrArg some (by kernel_rfl))
  f276 := Tryz.func253.trans (congrArg some (by kernel_rfl))
  t0 := Tryz.underlying0
  a0 := Tryz.isAgg0
  z0 := Tryz.sizeOf0
  v0 := Tryz.zeroValue0
  t3 := Tryz.underlying3
  a3 := Tryz.isAgg3
  z3 := Tryz.sizeOf3
  v3 := Tryz.zeroValue3
  t4 := Tryz.underlying4
  a4 := Tryz.isAgg4
  z4 := Tryz.sizeOf4
  v4 := Tryz.zeroValue4
  t9 := Tryz.underlying9
  a9 := Tryz.isAgg9
  z9 := Tryz.sizeOf9
  v9 := Tryz.zeroValue9
  t20 := Tryz.underlying20
  a20 := Tryz.isAgg20
  z20 := Tryz.sizeOf20
  v20 := Tryz.zeroValue20
  t37 := Tryz.underlying148
  a37 := Tryz.isAgg148
  z37 := Tryz.sizeOf148
  v37 := Tryz.zeroValue148
  t70 := Tryz.underlying254
  a70 := Tryz.isAgg254
  z70 := Tryz.sizeOf254
  v70 := Tryz.zeroValue254
  t72 := Tryz.underlying256
  a72 := Tryz.isAgg256
  z72 := Tryz.sizeOf256
  v72 := Tryz.zeroValue256
  t75 := Tryz.underlying258
  a75 := Tryz.isAgg258
  z75 := Tryz.sizeOf258
  v75 := Tryz.zeroValue258
  t164 := Tryz.underlying325
  a164 := Tryz.isAgg325
  z164 := Tryz.sizeOf325
  v164 := Tryz.zeroValue325
theorem Tryz.lays167 : Lays.n167 Tryz.prog renB where
  mixed := by kernel_rfl
  f167 := Tryz.func183.trans (congrArg some (by kernel_rfl))
  f240 := Tryz.func218.trans (congrArg some (by kernel_rfl))
  f276 := Tryz.func253.trans (congrArg some (by kernel_rfl))
  t0 := Tryz.underlying0
  a0 := Tryz.isAgg0
  z0 := Tryz.sizeOf0
  v0 := Tryz.zeroValue0
  t4 := Tryz.underlying4
  a4 := Tryz.isAgg4
  z4 := Tryz.sizeOf4
  v4 := Tryz.zeroValue4
  t5 := Tryz.underlying5
  a5 := Tryz.isAgg5
  z5 := Tryz.sizeOf5
  v5 := Tryz.zeroValue5
  t9 := Tryz.underlying9
  a9 := Tryz.isAgg9
  z9 := Tryz.sizeOf9
  v9 := Tryz.zeroValue9
  t20 := Tryz.underlying20
  a20 := Tryz.isAgg20
  z20 := Tryz.sizeOf20
  v20 := Tryz.zeroValue20
  t37 := Tryz.underlying148
  a37 := Tryz.isAgg148
  z37 := Tryz.sizeOf148
  v37 := Tryz.zeroValue148
  t70 := Tryz.underlying254
  a70 := Tryz.isAgg254
  z70 := Tryz.sizeOf254
  v70 := Tryz.zeroValue254
  t72 := Tryz.underlying256
  a72 := Tryz.isAgg256
  z72 := Tryz.sizeOf256
  v72 := Tryz.zeroValue256
  t75 := Tryz.underlying258
  a75 := Tryz.isAgg258
  z75 := Tryz.sizeOf258
  v75 := Tryz.zeroValue258
  t164 := Tryz.underlying325
  a164 := Tryz.isAgg325
  z164 := Tryz.sizeOf325
  v164 := Tryz.zeroValue325
theorem Tryz.extraB : Builder.Extra Tryz.prog renB where
  sizeBuilder := by kernel_rfl
  liesBuilder := by kernel_rfl
  t5 := Tryz.underlying5
  a5 := Tryz.isAgg5
  z5 := Tryz.sizeOf5
  v5 := Tryz.zeroValue5
  infoByte := by kernel_rfl
  cellsByte := by kernel_rfl
  sizeByte := by kernel_rfl
  neB5 := by decide
theorem Tryz.extra169 : Builder.Extra Tryz.prog Tryz.lays169_ren where
  sizeBuilder := by kernel_rfl
  liesBuilder := by kernel_rfl
  t5 := Tryz.underlying5
  a5 := Tryz.isAgg5
  z5 := Tryz.sizeOf5
  v5 := Tryz.zeroValue5
  infoByte := by kernel_rfl
  cellsByte := by kernel_rfl
  sizeByte := by kernel_rfl
  neB5 := by decide
end Go.Proofs
namespace Go.Proofs.YtpmpooekpeocdaaGreat
open Go.ChangeShapes Go.WideShapes Go.ChangeAt Go.RowKit
open Go.Lib (IsBuilderF BuilderAtF OthersKept strCells fresh_isBuilder)

theorem writeByte_any (B b : Nat) (bs : List Value) (c : Int) (w : World) (h : IsBuilderF 256 5 B b bs w) (hlen : bs.length + 1 ≤ 140737488355328) (hBw : B ≤ w.heap.size) :
    Calls Tryz.prog 183 #[.pointer (some ⟨b, 0, none⟩), .int .u8 c] w fun e w' => e = .returned .nilIface ∧ IsBuilderF 256 5 B b (bs ++ [.int .u8 c]) w' ∧ Below B w w' ∧ OthersKept 5 (some b) w w' := by
  have h1 := Any.Builder_WriteByte_k Tryz.lays167 Tryz.extraB B b bs c w h hlen hBw
  change Calls Tryz.prog 183 _ _ _ at h1
  exact h1.mono fun e w' ⟨a, b, c, d⟩ => ⟨a, .inr b, c, d⟩
theorem writeString_any (B b : Nat) (bs : List Value) (s : ByteArray) (w : World) (h : IsBuilderF 256 5 B b bs w) (hlen : bs.length + s.size ≤ 140737488355328) (hBw : B ≤ w.heap.size) :
    Calls Tryz.prog 184 #[.pointer (some ⟨b, 0, none⟩), .string s] w fun e w' => e = .returned (.tuple #[.int .i64 s.size, .nilIface]) ∧ IsBuilderF 256 5 B b (bs ++ strCells s) w' ∧ Below B w w' ∧ OthersKept 5 (some b) w w' := by
  have h1 := Any.Builder_WriteString_k Tryz.lays166 Tryz.extraB B b bs s w h hlen hBw
  change Calls Tryz.prog 184 _ _ _ at h1
  exact h1.mono fun e w' ⟨a, b, c, d⟩ => ⟨a, .inr b, c, d⟩
theorem builderString_any (B b : Nat) (l : List UInt8) (w : World) (h : IsBuilderF 256 5 B b (Lib.byteCells l) w) (hBw : B ≤ w.heap.size) :
    Calls Tryz.prog 185 #[.pointer (some ⟨b, 0, none⟩)] w fun e w' => e = .returned (.string ⟨l.toArray⟩) ∧ Below B w w' := by
  have h1 := Any.Builder_String_any_k Tryz.lays169 Tryz.extra169 B b l w h hBw
  change Calls Tryz.prog 185 _ _ _ at h1
  exact h1.mono fun e w' ⟨a, b, c, d⟩ => ⟨a, c⟩

theorem isb_lt {T e : TypeId} {B b : Nat} {bs : List Value} {w : World} (h : IsBuilderF T e B b bs w) : b < w.heap.size := by
  rcases h with ⟨_, v, h, _⟩ | ⟨_, v, h, _⟩ <;> exact (Array.getElem?_eq_some_iff.1 h).1
/-- A level's nodes, spelt. -/
def spN (ns : List Nd) : List UInt8 := ns.flatMap (fun nd => UInt8.ofNat nd.k.toNat :: nd.s.data.toList)
def spell (ls : List (List Nd)) : List UInt8 := ls.flatMap spN
theorem spN_snoc (ns : List Nd) (j : Nat) (h : j < ns.length) : spN (ns.take (j + 1)) = spN (ns.take j) ++ (UInt8.ofNat ns[j].k.toNat :: ns[j].s.data.toList) := by
  unfold spN; rw [List.take_succ_eq_append_getElem h, List.flatMap_append]; simp
theorem spell_snoc (ls : List (List Nd)) (j : Nat) (h : j < ls.length) : spell (ls.take (j + 1)) = spell (ls.take j) ++ spN ls[j] := by
  unfold spell; rw [List.take_succ_eq_append_getElem h, List.flatMap_append]; simp
theorem spN_le (ns : List Nd) (j : Nat) : (spN (ns.take j)).length ≤ (spN ns).length := by
  conv => rhs; rw [← List.take_append_drop j ns]
  unfold spN; rw [List.flatMap_append, List.length_append]; omega
theorem spell_le (ls : List (List Nd)) (j : Nat) : (spell (ls.take j)).length ≤ (spell ls).length := by
  conv => rhs; rw [← List.take_append_drop j ls]
  unfold spell; rw [List.flatMap_append, List.length_append]; omega
theorem bc_append (a b : List UInt8) : Lib.byteCells (a ++ b) = Lib.byteCells a ++ Lib.byteCells b := by simp [Lib.byteCells]
theorem byte_node (nd : Nd) (h0 : 0 ≤ nd.k) (h1 : nd.k < 256) : Lib.byteCells (UInt8.ofNat nd.k.toNat :: nd.s.data.toList) = [.int .u8 nd.k] ++ strCells nd.s := by
  have h2 : (UInt8.ofNat nd.k.toNat).toNat = nd.k.toNat := by simp; omega
  simp only [Lib.byteCells, strCells, List.map_cons, List.singleton_append, h2]
  rw [show ((nd.k.toNat : Nat) : Int) = nd.k by omega]

set_option maxRecDepth 20000 in
set_option maxHeartbeats 4000000 in
theorem spelling_any (v : Value) (ls : List (List Nd)) (w : World) (hv : LevsAt w v ls) (hk : ∀ l ∈ ls, ∀ nd ∈ l, 0 ≤ nd.k ∧ nd.k < 256) (hlen : (spell ls).length ≤ 1000000000) :
    Calls Tryz.prog 151 #[v] w fun e w' => e = .returned (.string ⟨(spell ls).toArray⟩) ∧ Below w.heap.size w w' := by
  obtain ⟨a, cap, rfl, hlc, hcm, hc⟩ := hv
  have HC := hide hc
  have HK := hide hk
  unfold maxLen at hcm
  have H0 : Hid (IsBuilderF 256 5 w.heap.size w.heap.size (Lib.byteCells (spell (ls.take 0))) (w.alloc (.cells #[.pointer none, .slice none 0 0] 256))) := by
    have h := fresh_isBuilder 256 5 w
    rcases h with h | h
    · exact .inl (BuilderAtF.of (by simpa [spell, Lib.byteCells] using h))
    · exact .inr (BuilderAtF.of (by simpa [spell, Lib.byteCells] using h))
  have HB0 := hide (bel_alloc (Below.refl w.heap.size w) (.cells #[.pointer none, .slice none 0 0] 256))
  clear hc hk
  go_enter Tryz.func151, Tryz.ntmps151
  go_wp2_with fail
  go_loopw [10] (fun i wr => ∃ (q : Nat), q ≤ ls.length ∧ i = .int .i64 q ∧ Hid (IsBuilderF 256 5 w.heap.size w.heap.size (Lib.byteCells (spell (ls.take q))) wr) ∧ Hid (Below w.heap.size w wr)) (fun i _ => ls.length - (intOf i).toNat)
  case atStart => exact ⟨0, by omega, rfl, H0, HB0⟩
  case round =>
    obtain ⟨q, hq, rfl, HI, HB⟩ := hrel
    clear H0 HB0
    by_cases hlt : q < ls.length
    · have hlt' : (q : Int) < ls.length := by omega
      obtain ⟨b, off, rfl, hcell⟩ := HC.out (by omega)
      obtain ⟨u, c1, hu⟩ := hcell q hlt
      have c1 := keep_cell HB.out c1
      have HU := hide hu
      obtain ⟨ua, uc, rfl, hul, hum, huc⟩ := hu
      have HUC := hide huc
      unfold maxLen at hum
      have HKl := hide (HK.out ls[q] (List.getElem_mem hlt))
      have HSN := hide (spell_snoc ls q hlt)
      have HLE : Hid ((spell (ls.take q)).length + (spN ls[q]).length ≤ 1000000000) := by
        show _ ≤ _
        have h1 := spell_le ls (q + 1)
        rw [HSN.out, List.length_append] at h1
        omega
      have HQ1 := hide (show q + 1 ≤ ls.length from hlt)
      clear hcell huc
      generalize ls[q] = l at *
      have HI2 := hide (HI.out.alloc (.cells #[.slice ua l.length uc] 200))
      have HB2 := hide (bel_alloc HB.out (.cells #[.slice ua l.length uc] 200))
      generalize spell (ls.take q) = S0 at *
      have HI3 : Hid (IsBuilderF 256 5 w.heap.size w.heap.size (Lib.byteCells (S0 ++ spN (l.take 0))) (wr.alloc (.cells #[.slice ua l.length uc] 200))) := by
        show IsBuilderF _ _ _ _ _ _; have h := HI2.out; simpa [spN] using h
      clear HI HB HI2
      go_wp2_with fail
      go_loopw [17] (fun i wr2 => ∃ (j : Nat), j ≤ l.length ∧ i = .int .i64 j ∧ Hid (IsBuilderF 256 5 w.heap.size w.heap.size (Lib.byteCells (S0 ++ spN (l.take j))) wr2) ∧ Hid (Below w.heap.size w wr2)) (fun i _ => l.length - (intOf i).toNat)
      case atStart => exact ⟨0, by omega, rfl, HI3, HB2⟩
      case round =>
        clear HI3 HB2
        rename World => W2
        obtain ⟨j, hj, rfl, HJ, HBJ⟩ := hrel
        by_cases hjl : j < l.length
        · have hjl' : (j : Int) < l.length := by omega
          obtain ⟨b2, off2, rfl, hcell⟩ := HUC.out (by omega)
          obtain ⟨d1, d2, kv, d3, hkv⟩ := hcell j hjl
          have d1 := keep_cell HBJ.out d1
          have d2 := keep_cell HBJ.out d2
          have d3 := keep_cell HBJ.out d3
          obtain ⟨ka, kc, rfl, _, _, _⟩ := hkv
          have hkr := HKl.out l[j] (List.getElem_mem hjl)
          have HSN2 := hide (spN_snoc l j hjl)
          have HBN := hide (byte_node l[j] hkr.1 hkr.2)
          have hle := HLE.out
          have hle2 := spN_le l (j + 1)
          rw [HSN2.out, List.length_append, List.length_cons] at hle2
          have hsz : l[j].s.data.toList.length = l[j].s.size := by rw [Array.length_toList]; rfl
          rw [hsz] at hle2
          have HQ2 := hide (show j + 1 ≤ l.length from hjl)
          clear hcell hsz
          generalize l[j] = nd at *
          generalize spN (l.take j) = S1 at *
          obtain ⟨kk0, kk1⟩ := hkr
          obtain ⟨W3, hW3⟩ : ∃ W3, W3 = W2.alloc (.cells #[.int .i64 nd.k, .string nd.s, .slice ka nd.kids.length kc] 243) := ⟨_, rfl⟩
          have HJ3 : Hid (IsBuilderF 256 5 w.heap.size w.heap.size (Lib.byteCells (S0 ++ S1)) W3) := by show IsBuilderF _ _ _ _ _ _; rw [hW3]; exact HJ.out.alloc _
          have HB3 : Hid (Below w.heap.size w W3) := by show Below _ _ _; rw [hW3]; exact bel_alloc HBJ.out _
          have hh3 : W3.heap[W2.heap.size]? = some (.cells #[.int .i64 nd.k, .string nd.s, .slice ka nd.kids.length kc] 243 (0, 0)) := by rw [hW3]; exact heap_alloc_new W2 _
          have e0 : W3.cell? ⟨W2.heap.size, 0, none⟩ = some (.int .i64 nd.k) := by rw [Lib.cell_of_heap hh3]; rfl
          have HWB := hide (writeByte_any w.heap.size w.heap.size (Lib.byteCells (S0 ++ S1)) nd.k W3 HJ3.out (by rw [Lib.byteCells_length, List.length_append]; omega) HB3.out.size)
          have hb3 := HB3.out.size
          go_upto_region 8 with fail
          rw [← hW3]
          clear hW3 d1 d2 d3
          have hwr : IntKind.u8.wrap nd.k = nd.k := by simp [IntKind.wrap, IntKind.bits, IntKind.signed]; omega
          go_wp2_with fail
          refine HWB.out.mono ?_
          rintro e w4 ⟨rfl, h4, hb4, ho4⟩
          have hh4 := ho4 _ _ hh3 (by intro e; have := Option.some.inj e; have := isb_lt HJ.out; omega) (fun c fz => by intro e; injection e with _ e2 _; cases e2)
          have e1 : w4.cell? ⟨W2.heap.size, 1, none⟩ = some (.string nd.s) := by rw [Lib.cell_of_heap hh4]; rfl
          have HB4 := hide (HB3.out.trans hb4)
          have HWS := hide (writeString_any w.heap.size w.heap.size (Lib.byteCells (S0 ++ S1) ++ [.int .u8 nd.k]) nd.s w4 h4 (by rw [List.length_append, Lib.byteCells_length, List.length_append]; simp; omega) HB4.out.size)
          clear h4 hb4 ho4 HWB hh3 e0
          go_wp2_with fail
          refine HWS.out.mono ?_
          rintro e w5 ⟨rfl, h5, hb5, ho5⟩
          have HB5 := hide (HB4.out.trans hb5)
          have HJ5 : Hid (IsBuilderF 256 5 w.heap.size w.heap.size (Lib.byteCells (S0 ++ spN (l.take (j + 1)))) w5) := by
            show IsBuilderF _ _ _ _ _ _
            rw [HSN2.out, ← List.append_assoc, bc_append, HBN.out, ← List.append_assoc]
            exact h5
          clear h5 hb5 ho5 HWS hh4 e1
          go_wp2_with fail
          go_roundw
          case rel => exact ⟨j + 1, HQ2.out, by go_num, HJ5, HB5⟩
          case measure => have := HQ2.out; simp [intOf]; omega
        · have hjl' : ¬ (j : Int) < l.length := by omega
          have HJ2 : Hid (IsBuilderF 256 5 w.heap.size w.heap.size (Lib.byteCells (spell (ls.take (q + 1)))) W2) := by
            have h := HJ.out
            rw [List.take_of_length_le (by omega)] at h
            show IsBuilderF _ _ _ _ _ _
            rw [HSN.out]; exact h
          go_wp2_with fail
          go_roundw
          case rel => exact ⟨q + 1, HQ1.out, by go_num, HJ2, HBJ⟩
          case measure => have := HQ1.out; simp [intOf]; omega
    · have hlt' : ¬ (q : Int) < ls.length := by omega
      have HI2 : Hid (IsBuilderF 256 5 w.heap.size w.heap.size (Lib.byteCells (spell ls)) wr) := by
        have h := HI.out
        rw [List.take_of_length_le (by omega)] at h
        exact h
      have HS := hide (builderString_any w.heap.size w.heap.size (spell ls) wr HI2.out HB.out.size)
      go_wp2_with fail
      refine HS.out.mono ?_
      rintro e w2 ⟨rfl, hb2⟩
      have HB2 := hide (HB.out.trans hb2)
      clear hb2
      go_wp2_with fail
      go_ret
      exact ⟨rfl, HB2.out⟩
end Go.Proofs.YtpmpooekpeocdaaGreat

/- The program's store: what is known of it, and what its function node answers. -/
namespace Go.Proofs.YtpmpooekpeocdaaGreat
open Go.ChangeShapes Go.WideShapes Go.ChangeAt Go.RowKit

theorem tkids_le (k : Int) : tkidsN k ≤ 3 := by
  unfold tkidsN
  repeat (first | omega | split)
/-- What is known of a node that the store has. -/
structure EntOk (base : Nat) (w : World) (L : List (Nk × Nat × Nat)) (Z : Nat → Zs) (H : Nat → Bool) (q : Nk) (b : Nat) : Prop where
  node : ∃ lv ls, NbAt w b (tmL q lv (Z b) (H b)) ∧ (∀ w', Below base w w' → LevsAt w' lv ls) ∧ (q.sp = ⟨(spell ls).toArray⟩ ∧ ∀ l ∈ ls, lvlB l = true) ∧ H b = hpP (parL ls) (fun j => H ((q.kid j).getD 0)) (tkidsN q.k).toNat
  low : base ≤ b
  k0 : 0 ≤ tkidsN q.k
  kid : ∀ j : Nat, (j : Int) < tkidsN q.k → ∃ y ∈ L, q.kid j = some y.2.1
  nok : ∀ j : Nat, tkidsN q.k ≤ (j : Int) → q.kid j = none
  z : Z b = zmk q.k q.n ((List.range (tkidsN q.k).toNat).map (fun j => Z ((q.kid j).getD 0)))
  ok : ZOk (Z b) ∧ (Z b).sz ≤ 20000
/-- The key of the one node that is too great. -/
def greatK : Nk := ⟨0, 0, 0, ⟨#[]⟩, ⟨#[]⟩, none, none, none⟩
/-- What is known of a store: its own block, its map, the nodes that the map leads to. -/
structure St (base : Nat) (w : World) (Sb mb gb : Nat) (clock : Nat) (L : List (Nk × Nat × Nat)) (Z : Nat → Zs) (H : Nat → Bool) : Prop where
  sb : w.heap[Sb]? = some (.cells #[.map (some mb), .pointer (some ⟨gb, 0, none⟩)] 141 (0, 0))
  mp : w.heap[mb]? = some (.map (L.map ent).toArray clock)
  ents : ∀ x ∈ L, EntOk base w L Z H x.1 x.2.1
  lows : base ≤ Sb ∧ base ≤ mb
  great : NbAt w gb (tmL greatK (.slice none 0 0) ⟨20001, 0, false⟩ false)
  gne : ∀ x ∈ L, x.2.1 ≠ gb
  uniq : ∀ x ∈ L, ∀ y ∈ L, x.1 = y.1 ∨ x.2.1 = y.2.1 → x = y
theorem nb_heap {w : World} {b : Nat} {xs : List Value} (h : NbAt w b xs) : ∃ cs, w.heap[b]? = some (.cells cs 121 (0, 0)) := by
  rcases h.2 with ⟨h', _⟩ | ⟨g, cap, cur, h', _, h4, _⟩
  · simp at h'
  · simp only [Value.slice.injEq, Option.some.injEq, Addr.mk.injEq, and_true, true_and] at h'
    obtain ⟨rfl, rfl⟩ := h'
    exact ⟨cur, h4⟩
theorem nb_same {w w' : World} {b : Nat} {xs : List Value} (h : NbAt w b xs) (hh : w'.heap[b]? = w.heap[b]?) : NbAt w' b xs := by
  refine ⟨h.1, ?_⟩
  rcases h.2 with h1 | ⟨g, cap, cur, h1, h2, h3, h4⟩
  · exact .inl h1
  · have e : g = b := by simp at h1; omega
    subst e
    exact .inr ⟨g, cap, cur, h1, h2, by rw [hh]; exact h3, h4⟩
theorem EntOk.ptr {base : Nat} {w : World} {L : List (Nk × Nat × Nat)} {Z : Nat → Zs} {H : Nat → Bool} {q : Nk} {b : Nat} (h : EntOk base w L Z H q b) : ∃ cs, w.heap[b]? = some (.cells cs 121 (0, 0)) := by
  obtain ⟨lv, ls, h1, _⟩ := h.node; exact nb_heap h1
theorem kid_all (q : Nk) {P : Option Nat → Prop} (h : ∀ j, P (q.kid j)) : P q.p0 ∧ P q.p1 ∧ P q.p2 := ⟨h 0, h 1, h 2⟩
/-- A key whose kids are nodes of the store. -/
structure KeySt (L : List (Nk × Nat × Nat)) (q : Nk) : Prop where
  k0 : 0 ≤ tkidsN q.k
  kid : ∀ j : Nat, (j : Int) < tkidsN q.k → ∃ y ∈ L, q.kid j = some y.2.1
  nok : ∀ j : Nat, tkidsN q.k ≤ (j : Int) → q.kid j = none
theorem EntOk.key {base : Nat} {w : World} {L : List (Nk × Nat × Nat)} {Z : Nat → Zs} {H : Nat → Bool} {q : Nk} {b : Nat} (h : EntOk base w L Z H q b) : KeySt L q := ⟨h.k0, h.kid, h.nok⟩
theorem KeySt.ok {base : Nat} {w : World} {Sb mb gb clock : Nat} {L : List (Nk × Nat × Nat)} {Z : Nat → Zs} {H : Nat → Bool} {q : Nk} (hs : St base w Sb mb gb clock L Z H) (h : KeySt L q) : KeyOk w q := by
  refine kid_all q (P := PtrOk w) (fun j => ?_)
  by_cases hj : (j : Int) < tkidsN q.k
  · obtain ⟨y, hy, e⟩ := h.kid j hj
    intro b hb
    rw [e] at hb
    obtain ⟨cs, h1⟩ := (hs.ents y hy).ptr
    exact ⟨cs, 121, by rw [← Option.some.inj hb]; exact h1⟩
  · rw [h.nok j (by omega)]; exact PtrOk.nil w
theorem St.keys {base : Nat} {w : World} {Sb mb gb clock : Nat} {L : List (Nk × Nat × Nat)} {Z : Nat → Zs} {H : Nat → Bool} (hs : St base w Sb mb gb clock L Z H) : ∀ x ∈ L, KeyOk w x.1 := fun x hx => (hs.ents x hx).key.ok hs
/-- Where its blocks, and all below its base, stay. -/
theorem EntOk.same {base : Nat} {w w' : World} {L : List (Nk × Nat × Nat)} {Z : Nat → Zs} {H : Nat → Bool} {q : Nk} {b : Nat} (h : EntOk base w L Z H q b) (hb : Below base w w') (hh : w'.heap[b]? = w.heap[b]?) : EntOk base w' L Z H q b := by
  obtain ⟨lv, ls, h1, h2, h3⟩ := h.node
  exact ⟨⟨lv, ls, nb_same h1 hh, fun w2 hw => h2 w2 (hb.trans hw), h3⟩, h.low, h.k0, h.kid, h.nok, h.z, h.ok⟩
theorem St.keep {base : Nat} {w w' : World} {Sb mb gb clock : Nat} {L : List (Nk × Nat × Nat)} {Z : Nat → Zs} {H : Nat → Bool} (hs : St base w Sb mb gb clock L Z H) (hb : Below w.heap.size w w') (hl : base ≤ w.heap.size) : St base w' Sb mb gb clock L Z H := by
  have e1 : Sb < w.heap.size := (Array.getElem?_eq_some_iff.1 hs.sb).1
  have e2 : mb < w.heap.size := (Array.getElem?_eq_some_iff.1 hs.mp).1
  refine ⟨by rw [hb.block Sb e1]; exact hs.sb, by rw [hb.block mb e2]; exact hs.mp, fun x hx => ?_, hs.lows, hs.great.keep hb, hs.gne, hs.uniq⟩
  obtain ⟨cs, h1⟩ := (hs.ents x hx).ptr
  exact (hs.ents x hx).same (hb.mono hl) (hb.block _ (Array.getElem?_eq_some_iff.1 h1).1)
theorem St.cell {base : Nat} {w : World} {Sb mb gb clock : Nat} {L : List (Nk × Nat × Nat)} {Z : Nat → Zs} {H : Nat → Bool} (hs : St base w Sb mb gb clock L Z H) : w.cell? ⟨Sb, 0, none⟩ = some (.map (some mb)) ∧ w.cell? ⟨Sb, 1, none⟩ = some (.pointer (some ⟨gb, 0, none⟩)) :=
  ⟨by rw [Lib.cell_of_heap hs.sb]; rfl, by rw [Lib.cell_of_heap hs.sb]; rfl⟩
end Go.Proofs.YtpmpooekpeocdaaGreat
