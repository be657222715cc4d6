/- Plain facts: a tree of a level, its nodes in the order kids first, and what one step over the nodes does to a stack of trees. -/
import Derived.Test.YtcagcfhnbphggaaGreatDoorNames
import Derived.Test.YtcagcfhnbphggaaGreatDoorTree
import Derived.Deep.AppendLies
namespace Go.Proofs.YtcagcfhnbphggaaGreatDoor

/-- The nodes of a tree, kids first, the first one standing at place o. -/
def Tr.flat : Nat → Tr → List Nd
  | _, .leaf k s => [⟨k, s, []⟩]
  | o, .one k s a => a.flat o ++ [⟨k, s, [((o + a.cnt - 1 : Nat) : Int)]⟩]
  | o, .two k s a b => a.flat o ++ b.flat (o + a.cnt) ++ [⟨k, s, [((o + a.cnt - 1 : Nat) : Int), ((o + a.cnt + b.cnt - 1 : Nat) : Int)]⟩]
/-- The kinds of the nodes fit the numbers of their kids, and their texts fit the kinds. -/
def Tr.ok : Tr → Prop
  | .leaf k s => (k = 1 ∨ k = 5) ∧ fieldsB ⟨k, s, []⟩ = true
  | .one k s a => k = 2 ∧ fieldsB ⟨k, s, []⟩ = true ∧ a.ok
  | .two k s a b => (k = 3 ∨ k = 4) ∧ fieldsB ⟨k, s, []⟩ = true ∧ a.ok ∧ b.ok
theorem Tr.flat_len : ∀ (t : Tr) (o : Nat), (t.flat o).length = t.cnt
  | .leaf _ _, _ => rfl
  | .one _ _ a, o => by simp [Tr.flat, Tr.cnt, Tr.flat_len a]; omega
  | .two _ _ a b, o => by simp [Tr.flat, Tr.cnt, Tr.flat_len a, Tr.flat_len b]; omega
theorem Tr.cnt_pos : ∀ t : Tr, 1 ≤ t.cnt
  | .leaf _ _ => Nat.le_refl _
  | .one _ _ a => by simp [Tr.cnt]
  | .two _ _ a b => by simp [Tr.cnt]; omega
theorem addName_ne (acc : List ByteArray) (nd : Nd) (h : nd.k ≠ 5) : addName acc nd = acc := by simp [addName, h]
theorem Tr.names_flat : ∀ (t : Tr) (o : Nat) (acc : List ByteArray), t.ok → t.names acc = (t.flat o).foldl addName acc
  | .leaf k s, o, acc, _ => by simp [Tr.names, Tr.flat, addName, addS]
  | .one k s a, o, acc, h => by
    obtain ⟨rfl, _, ha⟩ := h
    simp only [Tr.names, Tr.flat, List.foldl_append, List.foldl_cons, List.foldl_nil]
    rw [addName_ne _ _ (by simp), ← Tr.names_flat a o acc ha]; simp [addS]
  | .two k s a b, o, acc, h => by
    obtain ⟨hk, _, ha, hb⟩ := h
    simp only [Tr.names, Tr.flat, List.foldl_append, List.foldl_cons, List.foldl_nil]
    have h5 : k ≠ 5 := by omega
    rw [addName_ne _ _ h5, ← Tr.names_flat a o acc ha, ← Tr.names_flat b (o + a.cnt) _ hb]; simp [addS, h5]

def cnts : List Tr → Nat
  | [] => 0
  | t :: ts => t.cnt + cnts ts
def flats : Nat → List Tr → List Nd
  | _, [] => []
  | o, t :: ts => t.flat o ++ flats (o + t.cnt) ts
def rootsOf : Nat → List Tr → List Int
  | _, [] => []
  | o, t :: ts => ((o + t.cnt - 1 : Nat) : Int) :: rootsOf (o + t.cnt) ts
theorem cnts_append (xs ys : List Tr) : cnts (xs ++ ys) = cnts xs + cnts ys := by
  induction xs with
  | nil => simp [cnts]
  | cons x xs ih => simp [cnts, ih]; omega
theorem flats_append (xs ys : List Tr) : ∀ o, flats o (xs ++ ys) = flats o xs ++ flats (o + cnts xs) ys := by
  induction xs with
  | nil => intro o; simp [flats, cnts]
  | cons x xs ih => intro o; simp [flats, cnts, ih, Nat.add_assoc]
theorem roots_append (xs ys : List Tr) : ∀ o, rootsOf o (xs ++ ys) = rootsOf o xs ++ rootsOf (o + cnts xs) ys := by
  induction xs with
  | nil => intro o; simp [rootsOf, cnts]
  | cons x xs ih => intro o; simp [rootsOf, cnts, ih, Nat.add_assoc]
theorem flats_len (ts : List Tr) : ∀ o, (flats o ts).length = cnts ts := by
  induction ts with
  | nil => intro o; rfl
  | cons t ts ih => intro o; simp [flats, cnts, ih, Tr.flat_len]
theorem roots_len (ts : List Tr) : ∀ o, (rootsOf o ts).length = ts.length := by
  induction ts with
  | nil => intro o; rfl
  | cons t ts ih => intro o; simp [rootsOf, ih]

/-- Where a walk over the nodes stands: k nodes are read, the trees ts stand on the stack. -/
structure Stands (ns : List Nd) (k : Nat) (st : List Int) (ts : List Tr) : Prop where
  flat : ns.take k = flats 0 ts
  roots : st = rootsOf 0 ts
  ok : ∀ t ∈ ts, t.ok
theorem Stands.start (ns : List Nd) : Stands ns 0 [] [] := ⟨by simp [flats], rfl, by simp⟩
theorem Stands.len {ns : List Nd} {k : Nat} {st : List Int} {ts : List Tr} (h : Stands ns k st ts) : st.length = ts.length := by rw [h.roots, roots_len]
theorem Stands.cnt {ns : List Nd} {k : Nat} {st : List Int} {ts : List Tr} (h : Stands ns k st ts) (hk : k ≤ ns.length) : cnts ts = k := by
  rw [← flats_len ts 0, ← h.flat]; simp; omega

theorem Stands.step {ns : List Nd} {k : Nat} {st : List Int} {xs ys : List Tr} {t : Tr} (h : Stands ns k st (xs ++ ys)) (hk : k < ns.length) (hok : t.ok) (hflat : t.flat (cnts xs) = flats (cnts xs) ys ++ [ns[k]]) :
    Stands ns (k + 1) (st.take xs.length ++ [(k : Int)]) (xs ++ [t]) := by
  have hc := h.cnt (Nat.le_of_lt hk)
  have hf := h.flat
  have hr := h.roots
  have hlen : t.cnt = cnts ys + 1 := by rw [← Tr.flat_len t (cnts xs), hflat]; simp [flats_len]
  rw [cnts_append] at hc
  rw [flats_append, Nat.zero_add] at hf
  rw [roots_append, Nat.zero_add] at hr
  refine ⟨?_, ?_, ?_⟩
  · rw [List.take_succ_eq_append_getElem hk, hf, flats_append, Nat.zero_add]
    simp [flats, hflat]
  · rw [roots_append, Nat.zero_add, hr, List.take_left' (by rw [roots_len])]
    simp only [rootsOf, List.append_cancel_left_eq, List.cons.injEq, and_true]
    omega
  · intro u hu
    rcases List.mem_append.1 hu with h1 | h1
    · exact h.ok u (by simp [h1])
    · simp at h1; subst h1; exact hok
theorem Stands.drop {ns : List Nd} {k : Nat} {st : List Int} {xs ys : List Tr} (h : Stands ns k st (xs ++ ys)) : st.drop xs.length = rootsOf (cnts xs) ys := by
  rw [h.roots, roots_append, Nat.zero_add, List.drop_left' (by rw [roots_len])]

/-- One node more, by the number of its kids. -/
theorem Stands.zero {ns : List Nd} {k : Nat} {st : List Int} {xs : List Tr} (h : Stands ns k st xs) (hk : k < ns.length) (hn : kidsN ns[k].k = 0) (hf : fieldsB ns[k] = true) (hkids : ns[k].kids = []) :
    Stands ns (k + 1) (st.take xs.length ++ [(k : Int)]) (xs ++ [.leaf ns[k].k ns[k].s]) := by
  have h' : Stands ns k st (xs ++ []) := by simpa using h
  refine h'.step hk ⟨?_, hf⟩ ?_
  · unfold kidsN at hn; split at hn
    · assumption
    · split at hn
      · cases hn
      · split at hn <;> cases hn
  · simp [Tr.flat, flats, ← hkids]
theorem Stands.one {ns : List Nd} {k : Nat} {st : List Int} {xs : List Tr} {a : Tr} (h : Stands ns k st (xs ++ [a])) (hk : k < ns.length) (hn : kidsN ns[k].k = 1) (hf : fieldsB ns[k] = true) (hkids : ns[k].kids = st.drop xs.length) :
    Stands ns (k + 1) (st.take xs.length ++ [(k : Int)]) (xs ++ [.one ns[k].k ns[k].s a]) := by
  refine h.step hk ⟨?_, hf, h.ok a (by simp)⟩ ?_
  · unfold kidsN at hn; split at hn
    · cases hn
    · split at hn
      · assumption
      · split at hn <;> cases hn
  · rw [h.drop] at hkids
    simp only [Tr.flat, flats, List.append_nil, List.append_cancel_left_eq, List.cons.injEq, and_true]
    simp only [rootsOf] at hkids
    rw [← hkids]
theorem Stands.two {ns : List Nd} {k : Nat} {st : List Int} {xs : List Tr} {a b : Tr} (h : Stands ns k st (xs ++ [a, b])) (hk : k < ns.length) (hn : kidsN ns[k].k = 2) (hf : fieldsB ns[k] = true) (hkids : ns[k].kids = st.drop xs.length) :
    Stands ns (k + 1) (st.take xs.length ++ [(k : Int)]) (xs ++ [.two ns[k].k ns[k].s a b]) := by
  refine h.step hk ⟨?_, hf, h.ok a (by simp), h.ok b (by simp)⟩ ?_
  · unfold kidsN at hn; split at hn
    · cases hn
    · split at hn
      · cases hn
      · split at hn
        · assumption
        · cases hn
  · rw [h.drop] at hkids
    simp only [Tr.flat, flats, List.append_nil, List.append_assoc, List.append_cancel_left_eq, List.cons.injEq, and_true]
    simp only [rootsOf] at hkids
    rw [← hkids]
theorem Stands.all {ns : List Nd} {st : List Int} {t : Tr} (h : Stands ns ns.length st [t]) : ns = t.flat 0 ∧ t.ok ∧ t.names [] = namesOf ns ∧ t.cnt = ns.length := by
  have hf := h.flat
  simp [flats] at hf
  have hok := h.ok t (by simp)
  exact ⟨hf, hok, by rw [Tr.names_flat t 0 [] hok, ← hf]; rfl, by rw [← Tr.flat_len t 0, ← hf]⟩
end Go.Proofs.YtcagcfhnbphggaaGreatDoor

/- What the program's joinKids answers: the roots with the new node among them, or false; the row of roots alone is written. -/
namespace Go.Proofs.YtcagcfhnbphggaaGreatDoor
open Go.ChangeShapes Go.WideShapes Go.ChangeAt Go.RowKit

theorem Tryz.results32 : Tryz.f32.results = #[.tmp 8, .tmp 9] := by kernel_rfl
/-- A row of numbers of the call's own. -/
def OwnI (base : Nat) (w : World) (g cap : Nat) (st : List Int) : Prop := w.ownsRow base 3 1 (.slice (some ⟨g, 0, none⟩) st.length cap) st.length (st.map (Value.int .i64))
theorem OwnI.cap {base : Nat} {w : World} {g cap : Nat} {st : List Int} (h : OwnI base w g cap st) : st.length ≤ cap ∧ cap ≤ maxLen := by
  rcases h.2 with ⟨h', _⟩ | ⟨g', cap', cur, h', hb, hg, hnc, hcm, hcs, htake⟩
  · simp at h'
  · simp only [Value.slice.injEq, Option.some.injEq, Addr.mk.injEq, and_true, true_and] at h'
    obtain ⟨rfl, rfl⟩ := h'
    exact ⟨hnc, hcm⟩
theorem OwnI.keep {base : Nat} {w w' : World} {g cap : Nat} {st : List Int} (h : OwnI base w g cap st) (hb : Below w.heap.size w w') : OwnI base w' g cap st := row_keep hb h
theorem ownsRow_drewN' {w : World} {base : Nat} {e : TypeId} {size : Nat} {v : Value} {n : Nat} {xs : List Value} (h : w.ownsRow base e size v n xs) (m : Nat) : (w.drewN m).ownsRow base e size v n xs := h
/-- A part of it from a place on, as it is sliced. -/
theorem OwnI.drop {base : Nat} {w : World} {g cap : Nat} {st : List Int} (h : OwnI base w g cap st) (lo : Nat) (hlo : lo ≤ st.length) :
    ∃ a, sliced (some ⟨g, 0, none⟩) lo st.length cap 1 = .slice a (st.length - lo) (cap - lo) ∧ IntsAt w (.slice a (st.length - lo) (cap - lo)) (st.drop lo) := by
  have hcap := h.cap
  have hl : (st.drop lo).length = st.length - lo := by simp
  refine ⟨_, rfl, _, cap - lo, by rw [hl], by omega, by omega, fun h0 => ?_⟩
  have hne : ¬ cap = lo := by omega
  refine ⟨g, lo, by simp [hne, Addr.add]; intro h; omega, fun j hj => ?_⟩
  rw [World.ownsRow.cellAt h (lo + j) (by omega)]
  simp
theorem OwnI.take {base : Nat} {w : World} {g cap : Nat} {st : List Int} (h : OwnI base w g cap st) (lo : Nat) (hlo : lo ≤ st.length) : w.ownsRow base 3 1 (.slice (some ⟨g, 0, none⟩) lo cap) lo ((st.take lo).map (Value.int .i64)) := by
  obtain ⟨h1, h2⟩ := h
  rcases h2 with ⟨h', _⟩ | ⟨g', cap', cur, h', hb, hg, hnc, hcm, hcs, htake⟩
  · simp at h'
  · simp only [Value.slice.injEq, Option.some.injEq, Addr.mk.injEq, and_true, true_and] at h'
    obtain ⟨rfl, rfl⟩ := h'
    refine ⟨by simp; omega, .inr ⟨g, cap, cur, rfl, hb, hg, by omega, hcm, hcs, ?_⟩⟩
    rw [List.map_take, ← htake, List.take_take]; congr 1; omega
theorem OwnI.lt {base : Nat} {w : World} {g cap : Nat} {st : List Int} (h : OwnI base w g cap st) : base ≤ g ∧ g < w.heap.size := World.ownsRow.lt h g rfl

set_option maxHeartbeats 1000000 in
theorem joinKids_bad (st ks : List Int) (base g cap : Nat) (i c : Int) (kv : Value) (w : World) (hown : OwnI base w g cap st) (hk : IntsAt w kv ks) (hc1 : -1 ≤ c) (hc3 : c ≤ 3) (hst : st.length ≤ 1048576)
    (hbad : c < 0 ∨ (st.length : Int) < c ∨ ks ≠ st.drop (st.length - c.toNat)) :
    Calls Tryz.prog 32 #[.slice (some ⟨g, 0, none⟩) st.length cap, .int .i64 i, kv, .int .i64 c] w fun e w' => e = .returned (.tuple #[.slice none 0 0, .bool false]) ∧ ∃ n, w' = w.drewN n := by
  have HK := hide hk
  obtain ⟨ka, kc, rfl, _, _, _⟩ := hk
  have hw1 : IntKind.i64.wrap ((st.length : Int) - c) = (st.length : Int) - c := by rw [IntKind.wrap_i64]; omega
  by_cases h1 : c < 0
  · have d1 : decide (c < 0) = true := by simp [h1]
    clear hbad h1
    go_enter Tryz.func32, Tryz.ntmps32
    go_wp2_with fail
    refine bodyPost_ret (results_tmp2 Tryz.results32 _ _ _) rfl ?_
    exact ⟨rfl, 0, rfl⟩
  have d1 : decide (c < 0) = false := by simp; omega
  by_cases h2 : (st.length : Int) < c
  · have d2 : decide ((st.length : Int) - c < 0) = true := by simp; omega
    clear hbad h1 h2
    go_enter Tryz.func32, Tryz.ntmps32
    go_wp2_with fail
    refine bodyPost_ret (results_tmp2 Tryz.results32 _ _ _) rfl ?_
    exact ⟨rfl, 0, rfl⟩
  have d2 : decide ((st.length : Int) - c < 0) = false := by simp; omega
  obtain ⟨lo, hlo⟩ : ∃ lo : Nat, (st.length : Int) - c = (lo : Int) := ⟨st.length - c.toNat, by omega⟩
  have hlo2 : lo ≤ st.length := by omega
  have HD : Hid (decide (ks = st.drop lo) = false) := by
    show _ = false
    rcases hbad with h | h | h
    · omega
    · omega
    · rw [show st.length - c.toNat = lo from by omega] at h; simp [h]
  obtain ⟨a, ha, hrow⟩ := hown.drop lo hlo2
  have HROW := hide hrow
  have hsl : ∀ W : World, (Instr.slice 52 (.slice (some ⟨g, 0, none⟩) st.length cap) (some (.int .i64 (lo : Int))) none none).run Tryz.prog W = .ok (.slice a (st.length - lo) (cap - lo)) W := fun W => by
    rw [run_slice_l W 52 (some ⟨g, 0, none⟩) st.length cap (by kernel_rfl) .i64 (lo : Int) (by omega) (by omega), ← ha]
    simp [go_sem]
  rw [hlo] at hw1 d2
  clear hbad h1 h2 ha hrow
  go_enter Tryz.func32, Tryz.ntmps32
  go_wp2_with (go_at_call 48; refine (equal_any _ _ ks (st.drop lo) _ HK.out HROW.out).mono ?_; rintro e w3 ⟨rfl, n, rfl⟩; rw [HD.out])
  refine bodyPost_ret (results_tmp2 Tryz.results32 _ _ _) rfl ?_
  exact ⟨rfl, _, rfl⟩

set_option maxHeartbeats 1000000 in
theorem joinKids_good (st ks : List Int) (base g cap lo : Nat) (i c : Int) (kv : Value) (w : World) (hown : OwnI base w g cap st) (hk : IntsAt w kv ks) (hc1 : 0 ≤ c) (hc3 : c ≤ 3) (hst : st.length ≤ 1048576)
    (hlo : (st.length : Int) - c = (lo : Int)) (heq : ks = st.drop lo) :
    Calls Tryz.prog 32 #[.slice (some ⟨g, 0, none⟩) st.length cap, .int .i64 i, kv, .int .i64 c] w fun e w' => ∃ g' cap', e = .returned (.tuple #[.slice (some ⟨g', 0, none⟩) (st.take lo ++ [i]).length cap', .bool true]) ∧ OwnI base w' g' cap' (st.take lo ++ [i]) ∧ Below base w w' ∧ w.grownBy w' (some g) := by
  obtain ⟨i3, hi3, hz3, hs3, hb3⟩ := info_parts Tryz.info3
  have HK := hide hk
  obtain ⟨ka, kc, rfl, _, _, _⟩ := hk
  have hw1 : IntKind.i64.wrap ((st.length : Int) - c) = (st.length : Int) - c := by rw [IntKind.wrap_i64]; omega
  have d1 : decide (c < 0) = false := by simp; omega
  have d2 : decide ((st.length : Int) - c < 0) = false := by simp; omega
  have hlo2 : lo ≤ st.length := by omega
  have HD : Hid (decide (ks = st.drop lo) = true) := by show _ = true; simp [heq]
  obtain ⟨a, ha, hrow⟩ := hown.drop lo hlo2
  have HROW := hide hrow
  obtain ⟨hcap1, hcap2⟩ := hown.cap
  obtain ⟨hlt1, hlt2⟩ := hown.lt
  have hsl : ∀ W : World, (Instr.slice 52 (.slice (some ⟨g, 0, none⟩) st.length cap) (some (.int .i64 (lo : Int))) none none).run Tryz.prog W = .ok (.slice a (st.length - lo) (cap - lo)) W := fun W => by
    rw [run_slice_l W 52 (some ⟨g, 0, none⟩) st.length cap (by kernel_rfl) .i64 (lo : Int) (by omega) (by omega), ← ha]
    simp [go_sem]
  have hsh : ∀ W : World, (Instr.slice 52 (.slice (some ⟨g, 0, none⟩) st.length cap) none (some (.int .i64 (lo : Int))) none).run Tryz.prog W = .ok (.slice (some ⟨g, 0, none⟩) lo cap) W := fun W => by
    rw [run_slice_h W 52 (some ⟨g, 0, none⟩) st.length cap (by kernel_rfl) .i64 (lo : Int) (by omega) (by omega)]
    simp [sliced, go_sem]
  have HT := hide (hown.take lo hlo2)
  have HL : Hid ((st.take lo ++ [i]).length = lo + 1) := by show _ = _; simp; omega
  have hL3 : (lo + 1) * 8 ≤ 140737488355328 := by omega
  rw [hlo] at hw1 d2
  rw [HL.out]
  have HCP := hide hcap2
  clear ha hrow heq hcap2
  go_enter Tryz.func32, Tryz.ntmps32
  go_wp2_with (first
    | (go_at_call 48; refine (equal_any _ _ ks (st.drop lo) _ HK.out HROW.out).mono ?_; rintro e w3 ⟨rfl, n, rfl⟩; rw [HD.out])
    | (at_builtin; refine wpList_append_lies _ rfl _ _ 52 rfl base 3 i3 (.int .i64 0) 1 8 Tryz.underlying52 hi3 hz3 hs3 hb3 rfl (by omega) (.slice (some ⟨g, 0, none⟩) lo cap) lo ((st.take lo).map (Value.int .i64)) rfl ((ownsRow_drewN' HT.out n).alloc _) ⟨w.heap.size, 0, none⟩ 1 1 [.int .i64 i] rfl rfl ?c1 ?c2 (by omega) ?c3 ?c4 ?c5 (w.heap.size + 1) (by simp) ?_))
  case c1 => exact cell_one_new _ _ _
  case c2 => first | rfl | (intro u hu; simp at hu; subst hu; rfl)
  case c3 => unfold maxLen; omega
  case c4 => omega
  case c5 => simp; omega
  intro g4 cap4 w4 hown4 hgrow4 hat4 hlt4
  go_wp2_with fail
  refine bodyPost_ret (results_tmp2 Tryz.results32 _ _ _) rfl ?_
  refine ⟨g4, cap4, rfl, ?_, ?_, ?_⟩
  · unfold OwnI; rw [HL.out, List.map_append, List.map_take]; exact hown4
  · exact ((below_drewN (Below.refl _ _) n).alloc (by show base ≤ w.heap.size; omega) _).grown hgrow4 (by simp; omega) (fun k hk => by simp [Value.ownBlock] at hk; omega)
  · exact (grown_of ((below_drewN (Below.refl _ w) n).alloc (Nat.le_refl _) (.cells #[.int .i64 i] 3))).but _ |>.trans hgrow4
end Go.Proofs.YtcagcfhnbphggaaGreatDoor
