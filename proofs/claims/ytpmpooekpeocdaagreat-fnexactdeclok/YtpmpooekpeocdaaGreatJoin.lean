/- What the two functions NameOk answer (the specification's and the program's): the same function of the text's bytes, whatever the text. -/
import Derived.Test.YtpmpooekpeocdaaGreatPlain
import Derived.Test.YtpmpooekpeocdaaGreatCut
import Derived.Test.YtpmpooekpeocdaaGreatFew
import Derived.Deep.AppendLies
namespace Go.Proofs.YtpmpooekpeocdaaGreat
open Go.ChangeShapes Go.WideShapes Go.ChangeAt Go.RowKit

def shortL (l : List UInt8) : Bool := decide (1 ≤ l.length) && decide (l.length ≤ 40) && headOk l && l.all goesC
theorem shortB_eq (s : ByteArray) : shortB s = shortL s.data.toList := by simp [shortB, shortL]
theorem shortB_mk (l : List UInt8) : shortB ⟨l.toArray⟩ = shortL l := by rw [shortB_eq]
def nameB (s : ByteArray) : Bool := decide (s.size ≤ 40) && (parts s.data.toList).all shortL

theorem row_slice {W : World} {base : Nat} {e : TypeId} {size : Nat} {v : Value} {n : Nat} {xs : List Value} (h : W.ownsRow base e size v n xs) (hn : 0 < n) : ∃ g cap, v = .slice (some ⟨g, 0, none⟩) n cap := by
  rcases h.2 with ⟨_, h0⟩ | ⟨g, cap, _, hv, _⟩
  · omega
  · exact ⟨g, cap, hv⟩
theorem parts_pos (l : List UInt8) : 0 < (parts l).length := by
  cases l with
  | nil => simp [parts]
  | cons c l =>
    unfold parts
    split
    · simp
    · split <;> simp
theorem parts_short (l : List UInt8) : ∀ p ∈ parts l, p.length ≤ l.length := by
  induction l with
  | nil => simp [parts]
  | cons c l ih =>
    intro p hp
    unfold parts at hp
    split at hp
    · rcases List.mem_cons.1 hp with rfl | h
      · simp
      · have := ih p h; simp; omega
    · split at hp
      · simp at hp; subst hp; simp
      · rename_i q qs he
        rcases List.mem_cons.1 hp with rfl | h
        · have := ih q (by rw [he]; simp); simp; omega
        · have := ih p (by rw [he]; simp [h]); simp; omega

set_option maxHeartbeats 1000000 in
theorem specName_any (s : ByteArray) (w : World) (hs : s.size ≤ maxLen) :
    Calls Tryz.prog 71 #[.string s] w fun e w' => e = .returned (.bool (nameB s)) ∧ Below w.heap.size w w' := by
  unfold maxLen at hs
  by_cases h2 : 40 < s.size
  · go_enter Tryz.func71, Tryz.ntmps71
    go_wp2_with fail
    go_ret
    exact ⟨ret_bool (by simp [nameB]; omega), Below.refl _ _⟩
  have HF : Hid (nameB s = (parts s.data.toList).all shortL) := by show nameB s = _; simp [nameB]; omega
  have hpp := parts_pos s.data.toList
  have hpl := parts_len s.data.toList
  have HS : Hid (∀ p ∈ parts s.data.toList, p.length ≤ s.data.toList.length) := parts_short s.data.toList
  have hz : s.data.toList.length = s.size := by simp
  rw [hz] at hpl
  go_enter Tryz.func71, Tryz.ntmps71
  go_wp2_with (go_at_call 103; refine (l1Cut_any _ _ (by omega)).mono ?_; rintro e w1 ⟨v, rfl, hown, hbel⟩)
  generalize hP : parts s.data.toList = P at *
  obtain ⟨g, cap, hv⟩ := row_slice hown hpp
  rw [hv] at hown ⊢
  have hcell : ∀ j (h : j < P.length), w1.cell? ⟨g, j, none⟩ = some (strV P[j]) := by
    intro j h
    rw [hown.cellAt j (by omega)]
    simp [h]
  clear hP hown hv
  go_wp2_with fail
  go_loop [4] (fun i => ∃ k : Nat, k ≤ P.length ∧ i = .int .i64 k ∧ Hid ((P.take k).all shortL = true)) (fun i => P.length - (intOf i).toNat)
  case atStart => exact ⟨0, Nat.zero_le _, rfl, rfl⟩
  case round =>
    obtain ⟨k, hk, rfl, HA⟩ := hrel
    by_cases hlt : k < P.length
    · have hc := hcell k hlt
      unfold strV at hc
      have hsz : (⟨P[k].toArray⟩ : ByteArray).size ≤ maxLen := by
        have := HS.out P[k] (by simp)
        show P[k].toArray.size ≤ maxLen
        unfold maxLen; simp; omega
      cases hg : shortL P[k]
      · have HG : Hid (shortB ⟨P[k].toArray⟩ = false) := by show _ = false; rw [shortB_mk, hg]
        have HN : Hid (P.all shortL = false) := by
          show _ = false
          rw [List.all_eq_false]; exact ⟨P[k], by simp, by simp [hg]⟩
        clear hcell hg
        go_wp2_with (go_at_call 104; refine (specShort_any _ _ hsz).mono ?_; rintro e w' ⟨rfl, rfl⟩; rw [HG.out])
        go_ret
        exact ⟨ret_bool (by rw [HF.out, HN.out]), hbel⟩
      · have HG : Hid (shortB ⟨P[k].toArray⟩ = true) := by show _ = true; rw [shortB_mk, hg]
        have HN : Hid ((P.take (k + 1)).all shortL = true) := by
          show _ = true
          rw [List.take_succ_eq_append_getElem hlt, List.all_append, HA.out]; simp [hg]
        clear hcell hg
        go_wp2_with (go_at_call 104; refine (specShort_any _ _ hsz).mono ?_; rintro e w' ⟨rfl, rfl⟩; rw [HG.out])
        go_round
        case rel => exact ⟨k + 1, by omega, by go_num, HN⟩
        case measure => simp [intOf]; omega
    · have HN : Hid (P.all shortL = true) := by
        have := HA.out
        rwa [List.take_of_length_le (by omega)] at this
      clear hcell
      go_wp2_with fail
      go_ret
      exact ⟨ret_bool (by rw [HF.out, HN.out]), hbel⟩

def strLen : Value → Nat | .string r => r.size | _ => 0

set_option maxHeartbeats 1000000 in
theorem implName_any (s : ByteArray) (w : World) (hs : s.size ≤ maxLen) :
    Calls Tryz.prog 110 #[.string s] w fun e w' => e = .returned (.bool (nameB s)) ∧ Below w.heap.size w w' := by
  unfold maxLen at hs
  by_cases h2 : 40 < s.size
  · go_enter Tryz.func110, Tryz.ntmps110
    go_wp2_with fail
    go_ret
    exact ⟨ret_bool (by simp [nameB]; omega), Below.refl _ _⟩
  have HF : Hid (nameB s = (parts s.data.toList).all shortL) := by show nameB s = _; simp [nameB]; omega
  have d2 : decide (40 < (s.size : Int)) = false := by simp; omega
  go_enter Tryz.func110, Tryz.ntmps110
  go_wp2_with fail
  go_loopw [0] (fun o wr => ∃ r : ByteArray, r.size ≤ 40 ∧ o = .string r ∧ Hid ((parts s.data.toList).all shortL = (parts r.data.toList).all shortL) ∧ ∃ n, wr = w.drewN n) (fun o _ => strLen o)
  case atStart => exact ⟨s, by omega, rfl, rfl, 0, rfl⟩
  case round =>
    obtain ⟨r, hr, rfl, HR, n, rfl⟩ := hrel
    have hr2 : r.size ≤ maxLen := by unfold maxLen; omega
    have hlen : r.data.toList.length = r.size := by simp
    by_cases hp : Lib.indexByte r.data.toList 46 < 0
    · have hm := index_miss _ hp
      have HP : Hid ((parts r.data.toList).all shortL = shortB r) := by show _ = _; rw [parts_none _ hm, shortB_eq]; simp
      clear hp
      cases hsr : shortB r
      all_goals
        go_wp2_with (first | (go_at_call 147; refine (cut_miss _ _ hm).mono ?_; rintro e w' ⟨rfl, n2, rfl⟩) | (go_at_call 148; refine (implShort_any _ _ hr2).mono ?_; rintro e w' ⟨rfl, rfl⟩))
        go_ret
        exact ⟨ret_bool (by rw [HF.out, HR.out, HP.out, hsr]), below_drewN (Below.refl _ _) _⟩
    · obtain ⟨i, hi⟩ : ∃ i : Nat, Lib.indexByte r.data.toList 46 = i := ⟨(Lib.indexByte r.data.toList 46).toNat, by omega⟩
      have HI : Hid (Lib.indexByte r.data.toList 46 = i) := hi
      obtain ⟨h1, h3, h4⟩ := index_hit _ i hi
      have e1 : (r.extract 0 i).data.toList = r.data.toList.take i := by rw [Lib.extract_data]; simp
      have e2 : (r.extract (i + 1) r.size).data.toList = r.data.toList.drop (i + 1) := by
        rw [Lib.extract_data, List.take_of_length_le (by simp)]
      have HP : Hid ((parts r.data.toList).all shortL = (shortB (r.extract 0 i) && (parts (r.extract (i + 1) r.size).data.toList).all shortL)) := by
        show _ = _
        rw [shortB_eq, e1, e2]
        conv => lhs; rw [h4]
        rw [parts_at _ _ h3]; rfl
      have z1 : (r.extract 0 i).size ≤ maxLen := by rw [← ByteArray.size_data, ← Array.length_toList, e1]; unfold maxLen; simp; omega
      have z2 : (r.extract (i + 1) r.size).size ≤ 40 ∧ (r.extract (i + 1) r.size).size < r.size := by
        rw [← ByteArray.size_data, ← Array.length_toList, e2]; simp; omega
      obtain ⟨z2, z3⟩ := z2
      clear hi hp e1 e2 h3 h4
      generalize hA : r.extract 0 i = A at *
      generalize hB : r.extract (i + 1) r.size = B at *
      have HA : Hid (r.extract 0 i = A) := hA
      have HB : Hid (r.extract (i + 1) r.size = B) := hB
      clear hA hB
      cases hsr : shortB A
      all_goals
        go_wp2_with (first | (go_at_call 147; refine (cut_hit _ i _ hr2 HI.out).mono ?_; rintro e w' ⟨rfl, n2, rfl⟩; rw [HA.out, HB.out]) | (go_at_call 148; refine (implShort_any _ _ z1).mono ?_; rintro e w' ⟨rfl, rfl⟩))
      · go_ret
        exact ⟨ret_bool (by rw [HF.out, HR.out, HP.out, hsr]; rfl), below_drewN (Below.refl _ _) _⟩
      · go_roundw
        case rel =>
          have HQ : Hid ((parts s.data.toList).all shortL = (parts B.data.toList).all shortL) := by show _ = _; rw [HR.out, HP.out, hsr]; rfl
          exact ⟨B, z2, rfl, HQ, _, rfl⟩
        case measure => simp [strLen]; omega
end Go.Proofs.YtpmpooekpeocdaaGreat

/- What the program's joinKids answers: the roots with the new node among them, or false; the row of roots alone is written. -/
namespace Go.Proofs.YtpmpooekpeocdaaGreat
open Go.ChangeShapes Go.WideShapes Go.ChangeAt Go.RowKit

theorem Tryz.results181 : Tryz.f181.results = #[.tmp 8, .tmp 9] := by kernel_rfl
/-- A row of numbers of the call's own. -/
def OwnI (base : Nat) (w : World) (g cap : Nat) (st : List Int) : Prop := w.ownsRow base 3 1 (.slice (some ⟨g, 0, none⟩) st.length cap) st.length (st.map (Value.int .i64))
theorem OwnI.cap {base : Nat} {w : World} {g cap : Nat} {st : List Int} (h : OwnI base w g cap st) : st.length ≤ cap ∧ cap ≤ maxLen := by
  rcases h.2 with ⟨h', _⟩ | ⟨g', cap', cur, h', hb, hg, hnc, hcm, hcs, htake⟩
  · simp at h'
  · simp only [Value.slice.injEq, Option.some.injEq, Addr.mk.injEq, and_true, true_and] at h'
    obtain ⟨rfl, rfl⟩ := h'
    exact ⟨hnc, hcm⟩
theorem OwnI.keep {base : Nat} {w w' : World} {g cap : Nat} {st : List Int} (h : OwnI base w g cap st) (hb : Below w.heap.size w w') : OwnI base w' g cap st := row_keep hb h
theorem ownsRow_drewN' {w : World} {base : Nat} {e : TypeId} {size : Nat} {v : Value} {n : Nat} {xs : List Value} (h : w.ownsRow base e size v n xs) (m : Nat) : (w.drewN m).ownsRow base e size v n xs := h
/-- A part of it from a place on, as it is sliced. -/
theorem OwnI.drop {base : Nat} {w : World} {g cap : Nat} {st : List Int} (h : OwnI base w g cap st) (lo : Nat) (hlo : lo ≤ st.length) :
    ∃ a, sliced (some ⟨g, 0, none⟩) lo st.length cap 1 = .slice a (st.length - lo) (cap - lo) ∧ IntsAt w (.slice a (st.length - lo) (cap - lo)) (st.drop lo) := by
  have hcap := h.cap
  have hl : (st.drop lo).length = st.length - lo := by simp
  refine ⟨_, rfl, _, cap - lo, by rw [hl], by omega, by omega, fun h0 => ?_⟩
  have hne : ¬ cap = lo := by omega
  refine ⟨g, lo, by simp [hne, Addr.add]; intro h; omega, fun j hj => ?_⟩
  rw [World.ownsRow.cellAt h (lo + j) (by omega)]
  simp
theorem OwnI.take {base : Nat} {w : World} {g cap : Nat} {st : List Int} (h : OwnI base w g cap st) (lo : Nat) (hlo : lo ≤ st.length) : w.ownsRow base 3 1 (.slice (some ⟨g, 0, none⟩) lo cap) lo ((st.take lo).map (Value.int .i64)) := by
  obtain ⟨h1, h2⟩ := h
  rcases h2 with ⟨h', _⟩ | ⟨g', cap', cur, h', hb, hg, hnc, hcm, hcs, htake⟩
  · simp at h'
  · simp only [Value.slice.injEq, Option.some.injEq, Addr.mk.injEq, and_true, true_and] at h'
    obtain ⟨rfl, rfl⟩ := h'
    refine ⟨by simp; omega, .inr ⟨g, cap, cur, rfl, hb, hg, by omega, hcm, hcs, ?_⟩⟩
    rw [List.map_take, ← htake, List.take_take]; congr 1; omega
theorem OwnI.lt {base : Nat} {w : World} {g cap : Nat} {st : List Int} (h : OwnI base w g cap st) : base ≤ g ∧ g < w.heap.size := World.ownsRow.lt h g rfl

set_option maxHeartbeats 1000000 in
theorem joinKids_bad (st ks : List Int) (base g cap : Nat) (i c : Int) (kv : Value) (w : World) (hown : OwnI base w g cap st) (hk : IntsAt w kv ks) (hc1 : -1 ≤ c) (hc3 : c ≤ 3) (hst : st.length ≤ 1048576)
    (hbad : c < 0 ∨ (st.length : Int) < c ∨ ks ≠ st.drop (st.length - c.toNat)) :
    Calls Tryz.prog 181 #[.slice (some ⟨g, 0, none⟩) st.length cap, .int .i64 i, kv, .int .i64 c] w fun e w' => e = .returned (.tuple #[.slice none 0 0, .bool false]) ∧ ∃ n, w' = w.drewN n := by
  have HK := hide hk
  obtain ⟨ka, kc, rfl, _, _, _⟩ := hk
  have hw1 : IntKind.i64.wrap ((st.length : Int) - c) = (st.length : Int) - c := by rw [IntKind.wrap_i64]; omega
  by_cases h1 : c < 0
  · have d1 : decide (c < 0) = true := by simp [h1]
    clear hbad h1
    go_enter Tryz.func181, Tryz.ntmps181
    go_wp2_with fail
    refine bodyPost_ret (results_tmp2 Tryz.results181 _ _ _) rfl ?_
    exact ⟨rfl, 0, rfl⟩
  have d1 : decide (c < 0) = false := by simp; omega
  by_cases h2 : (st.length : Int) < c
  · have d2 : decide ((st.length : Int) - c < 0) = true := by simp; omega
    clear hbad h1 h2
    go_enter Tryz.func181, Tryz.ntmps181
    go_wp2_with fail
    refine bodyPost_ret (results_tmp2 Tryz.results181 _ _ _) rfl ?_
    exact ⟨rfl, 0, rfl⟩
  have d2 : decide ((st.length : Int) - c < 0) = false := by simp; omega
  obtain ⟨lo, hlo⟩ : ∃ lo : Nat, (st.length : Int) - c = (lo : Int) := ⟨st.length - c.toNat, by omega⟩
  have hlo2 : lo ≤ st.length := by omega
  have HD : Hid (decide (ks = st.drop lo) = false) := by
    show _ = false
    rcases hbad with h | h | h
    · omega
    · omega
    · rw [show st.length - c.toNat = lo from by omega] at h; simp [h]
  obtain ⟨a, ha, hrow⟩ := hown.drop lo hlo2
  have HROW := hide hrow
  have hsl : ∀ W : World, (Instr.slice 163 (.slice (some ⟨g, 0, none⟩) st.length cap) (some (.int .i64 (lo : Int))) none none).run Tryz.prog W = .ok (.slice a (st.length - lo) (cap - lo)) W := fun W => by
    rw [run_slice_l W 163 (some ⟨g, 0, none⟩) st.length cap (by kernel_rfl) .i64 (lo : Int) (by omega) (by omega), ← ha]
    simp [go_sem]
  rw [hlo] at hw1 d2
  clear hbad h1 h2 ha hrow
  go_enter Tryz.func181, Tryz.ntmps181
  go_wp2_with (go_at_call 213; refine (equal_any _ _ ks (st.drop lo) _ HK.out HROW.out).mono ?_; rintro e w3 ⟨rfl, n, rfl⟩; rw [HD.out])
  refine bodyPost_ret (results_tmp2 Tryz.results181 _ _ _) rfl ?_
  exact ⟨rfl, _, rfl⟩

set_option maxHeartbeats 1000000 in
theorem joinKids_good (st ks : List Int) (base g cap lo : Nat) (i c : Int) (kv : Value) (w : World) (hown : OwnI base w g cap st) (hk : IntsAt w kv ks) (hc1 : 0 ≤ c) (hc3 : c ≤ 3) (hst : st.length ≤ 1048576)
    (hlo : (st.length : Int) - c = (lo : Int)) (heq : ks = st.drop lo) :
    Calls Tryz.prog 181 #[.slice (some ⟨g, 0, none⟩) st.length cap, .int .i64 i, kv, .int .i64 c] w fun e w' => ∃ g' cap', e = .returned (.tuple #[.slice (some ⟨g', 0, none⟩) (st.take lo ++ [i]).length cap', .bool true]) ∧ OwnI base w' g' cap' (st.take lo ++ [i]) ∧ Below base w w' ∧ w.grownBy w' (some g) := by
  obtain ⟨i3, hi3, hz3, hs3, hb3⟩ := info_parts Tryz.info3
  have HK := hide hk
  obtain ⟨ka, kc, rfl, _, _, _⟩ := hk
  have hw1 : IntKind.i64.wrap ((st.length : Int) - c) = (st.length : Int) - c := by rw [IntKind.wrap_i64]; omega
  have d1 : decide (c < 0) = false := by simp; omega
  have d2 : decide ((st.length : Int) - c < 0) = false := by simp; omega
  have hlo2 : lo ≤ st.length := by omega
  have HD : Hid (decide (ks = st.drop lo) = true) := by show _ = true; simp [heq]
  obtain ⟨a, ha, hrow⟩ := hown.drop lo hlo2
  have HROW := hide hrow
  obtain ⟨hcap1, hcap2⟩ := hown.cap
  obtain ⟨hlt1, hlt2⟩ := hown.lt
  have hsl : ∀ W : World, (Instr.slice 163 (.slice (some ⟨g, 0, none⟩) st.length cap) (some (.int .i64 (lo : Int))) none none).run Tryz.prog W = .ok (.slice a (st.length - lo) (cap - lo)) W := fun W => by
    rw [run_slice_l W 163 (some ⟨g, 0, none⟩) st.length cap (by kernel_rfl) .i64 (lo : Int) (by omega) (by omega), ← ha]
    simp [go_sem]
  have hsh : ∀ W : World, (Instr.slice 163 (.slice (some ⟨g, 0, none⟩) st.length cap) none (some (.int .i64 (lo : Int))) none).run Tryz.prog W = .ok (.slice (some ⟨g, 0, none⟩) lo cap) W := fun W => by
    rw [run_slice_h W 163 (some ⟨g, 0, none⟩) st.length cap (by kernel_rfl) .i64 (lo : Int) (by omega) (by omega)]
    simp [sliced, go_sem]
  have HT := hide (hown.take lo hlo2)
  have HL : Hid ((st.take lo ++ [i]).length = lo + 1) := by show _ = _; simp; omega
  have hL3 : (lo + 1) * 8 ≤ 140737488355328 := by omega
  rw [hlo] at hw1 d2
  rw [HL.out]
  have HCP := hide hcap2
  clear ha hrow heq hcap2
  go_enter Tryz.func181, Tryz.ntmps181
  go_wp2_with (first
    | (go_at_call 213; refine (equal_any _ _ ks (st.drop lo) _ HK.out HROW.out).mono ?_; rintro e w3 ⟨rfl, n, rfl⟩; rw [HD.out])
    | (at_builtin; refine wpList_append_lies _ rfl _ _ 163 rfl base 3 i3 (.int .i64 0) 1 8 Tryz.underlying163 hi3 hz3 hs3 hb3 rfl (by omega) (.slice (some ⟨g, 0, none⟩) lo cap) lo ((st.take lo).map (Value.int .i64)) rfl ((ownsRow_drewN' HT.out n).alloc _) ⟨w.heap.size, 0, none⟩ 1 1 [.int .i64 i] rfl rfl ?c1 ?c2 (by omega) ?c3 ?c4 ?c5 (w.heap.size + 1) (by simp) ?_))
  case c1 => exact cell_one_new _ _ _
  case c2 => first | rfl | (intro u hu; simp at hu; subst hu; rfl)
  case c3 => unfold maxLen; omega
  case c4 => omega
  case c5 => simp; omega
  intro g4 cap4 w4 hown4 hgrow4 hat4 hlt4
  go_wp2_with fail
  refine bodyPost_ret (results_tmp2 Tryz.results181 _ _ _) rfl ?_
  refine ⟨g4, cap4, rfl, ?_, ?_, ?_⟩
  · unfold OwnI; rw [HL.out, List.map_append, List.map_take]; exact hown4
  · exact ((below_drewN (Below.refl _ _) n).alloc (by show base ≤ w.heap.size; omega) _).grown hgrow4 (by simp; omega) (fun k hk => by simp [Value.ownBlock] at hk; omega)
  · exact (grown_of ((below_drewN (Below.refl _ w) n).alloc (Nat.le_refl _) (.cells #[.int .i64 i] 3))).but _ |>.trans hgrow4
end Go.Proofs.YtpmpooekpeocdaaGreat
