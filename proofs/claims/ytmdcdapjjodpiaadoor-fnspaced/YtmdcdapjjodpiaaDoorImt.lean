/- Rows of tokens; what the program's Tokens answers. -/
import Derived.Test.YtmdcdapjjodpiaaDoorSpt
import Derived.Deep.AppendLies
import Derived.WalkMore
namespace Go.Proofs.YtmdcdapjjodpiaaDoor
open Go.ChangeShapes Go.WideShapes Go.ChangeAt Go.RowKit

def tkC (ts : List Tk) : List Value := ts.flatMap fun tk => [.int .i64 tk.k, .string tk.s, .int .i64 tk.n, .int .i64 tk.p]
theorem tkC_snoc (ts : List Tk) (tk : Tk) : tkC (ts ++ [tk]) = tkC ts ++ [.int .i64 tk.k, .string tk.s, .int .i64 tk.n, .int .i64 tk.p] := by
  unfold tkC
  rw [List.flatMap_append]
  simp
/-- A row of tokens of the call's own. -/
def TkRow (base : Nat) (w : World) (v : Value) (ts : List Tk) : Prop := w.ownsRow base 29 4 v ts.length (tkC ts)
def BytesV (w : World) (v : Value) (T : ByteArray) : Prop :=
  ∃ a cap, v = .slice a T.size cap ∧ T.size ≤ cap ∧ cap ≤ maxLen ∧ (0 < T.size → ∃ b o, a = some ⟨b, o, none⟩ ∧ Lib.Bytes w b o T)
theorem BytesV.keep {w w' : World} {v : Value} {T : ByteArray} (h : BytesV w v T) (hb : Below w.heap.size w w') : BytesV w' v T := by
  obtain ⟨a, cap, h1, h2, h3, h4⟩ := h
  exact ⟨a, cap, h1, h2, h3, fun h0 => by obtain ⟨b, o, h5, h6⟩ := h4 h0; exact ⟨b, o, h5, bytes_keep hb h6⟩⟩
/-- What Tokens answers. -/
def TokOut (r : List Tk × Nat × Nat) (w : World) (e : Ending) (w' : World) : Prop :=
  ∃ tv, e = .returned (.tuple #[tv, .int .i64 (r.2.1 : Nat), .int .i64 (r.2.2 : Nat)]) ∧ TkRow w.heap.size w' tv r.1 ∧ Below w.heap.size w w'
theorem grown_of {w w' : World} (hb : Below w.heap.size w w') : w.grownBy w' none := ⟨hb.os, hb.tape, hb.output, hb.size, fun k hk _ => hb.block k hk⟩
theorem row_keep {w w' : World} (hb : Below w.heap.size w w') {base : Nat} {e : TypeId} {size : Nat} {v : Value} {n : Nat} {xs : List Value} (h : w.ownsRow base e size v n xs) : w'.ownsRow base e size v n xs :=
  h.kept (grown_of hb) (by cases hv : v.ownBlock <;> simp)
theorem row_form {w : World} {base : Nat} {e : TypeId} {size : Nat} {v : Value} {n : Nat} {xs : List Value} (h : w.ownsRow base e size v n xs) : ∃ a cap, v = .slice a n cap := by
  rcases h.2 with ⟨rfl, rfl⟩ | ⟨g, cap, _, rfl, _⟩
  · exact ⟨_, _, rfl⟩
  · exact ⟨_, _, rfl⟩
theorem Tryd.info29 : (Tryd.prog.info? 29).map (fun i => (i.zero, i.size, i.bytes)) = some (some (.agg #[.int .i64 0, .string ⟨#[]⟩, .int .i64 0, .int .i64 0]), 4, 40) := by kernel_rfl
theorem alloc2_block (w : World) (o1 o2 : Obj) : ((w.alloc o1).alloc o2).heap[w.heap.size + 1]? = some o2 := by
  rw [← World.size_alloc w o1]; exact heap_alloc_new _ _
theorem dash_bytes (w : World) : Lib.Bytes (w.alloc (.cells #[.int .u8 45, .int .u8 45] 5 (2, 3))) w.heap.size 0 dashB := by
  intro i hi
  have hi2 : i < 2 := hi
  rw [Nat.zero_add, World.cell?_alloc_mark]
  match i, hi2 with
  | 0, _ => rfl
  | 1, _ => rfl

set_option maxRecDepth 20000 in
set_option maxHeartbeats 8000000 in
theorem implTokens_any (v : Value) (T : ByteArray) (w : World) (h : BytesV w v T) (htab : Tabs w) :
    Calls Tryd.prog 6 #[v] w fun e w' => TokOut (tokens T) w e w' := by
  obtain ⟨a, cap, rfl, hcap, hcm, hb⟩ := h
  unfold maxLen at hcm
  obtain ⟨i0, hi0, hz0, hz1, hz2⟩ := info_parts Tryd.info29
  by_cases hT : 20000 < T.size
  · have HE : Hid (tokens T = ([], 3, 0)) := by show _ = _; unfold tokens; rw [if_neg (by omega)]
    have hT' : (20000 : Int) < T.size := by omega
    clear hb htab
    go_enter Tryd.func6, Tryd.ntmps6
    go_wp2_with fail
    go_step3
    go_wp2_with fail
    rw [Exit.noGoto_ret]
    refine bodyPost_ret (results_tmp3 Tryd.results6 _ _ _) rfl ?_
    rw [HE.out]
    exact ⟨_, rfl, World.ownsRow_nil _ _ _ _, Below.refl _ _⟩
  · have HE : Hid (tokens T = scan T 0 []) := by show _ = _; unfold tokens; rw [if_pos (by omega)]
    have hT' : ¬ (20000 : Int) < T.size := by omega
    have HB := hide hb
    have HT := hide htab
    clear hb htab
    go_enter Tryd.func6, Tryd.ntmps6
    go_wp2_with fail
    go_step3
    go_wp2_with fail
    go_step3
    go_wp2_with fail
    go_loopw [5, 6] (fun tv iv wr => ∃ (k : Nat) (acc : List Tk), k ≤ T.size ∧ acc.length ≤ k ∧ iv = .int .i64 k ∧ Hid (TkRow w.heap.size wr tv acc) ∧ Hid (scan T k acc = scan T 0 []) ∧ Hid (Below w.heap.size w wr)) (fun _ iv _ => T.size - (intOf iv).toNat)
    case atStart => exact ⟨0, [], by omega, by simp, rfl, World.ownsRow_nil _ _ _ _, rfl, Below.refl _ _⟩
    case round =>
      obtain ⟨k, acc, hk, hacc, rfl, HR, HS, HW⟩ := hrel
      obtain ⟨ta, tc, rfl⟩ := row_form HR.out
      by_cases hlt : k < T.size
      · obtain ⟨b, o, rfl, hbb⟩ := HB.out (by omega)
        have HC := hide (bytes_keep HW.out hbb)
        have hlt' : (k : Int) < T.size := by omega
        have c0 := Bytes.at HC.out k hlt
        clear hbb
        cases hbl : blankB (bN T k)
        · have HCB := fun W C n c => Lib.run_convert_bytes_const (P := Tryd.prog) W 22 5 C n c Tryd.underlying22 Tryd.underlying5
          have hsl := fun W => sl_l W b o T.size cap k hlt hcap
          have HBD := bel_alloc (Below.refl wr.heap.size wr) (.cells #[.int .u8 45, .int .u8 45] 5 (2, 3))
          have HP : Calls Tryd.prog 15 #[.slice (some ⟨b, o + k, none⟩) (T.size - k) (cap - k), .slice (some ⟨wr.heap.size, 0, none⟩) 2 2] (wr.alloc (.cells #[.int .u8 45, .int .u8 45] 5 (2, 3))) _ := prefix_any _ b o T dashB wr.heap.size (bytes_keep HBD HC.out) (dash_bytes wr) k (cap - k) 2 (by omega) (by decide) (by omega)
          have HW2 := hide (bel_trans HW.out HBD)
          cases hpd : preB dashB T k
          · rw [hpd] at HP
            have HP2 := hide HP
            have HC2 := hide (bytes_keep HBD HC.out)
            have HK := sourceToken_any (wr.alloc (.cells #[.int .u8 45, .int .u8 45] 5 (2, 3))) b o T HC2.out (HT.out.keep HW2.out) k cap hlt hcap (by omega)
            have HR2 := hide (show TkRow w.heap.size (wr.alloc (.cells #[.int .u8 45, .int .u8 45] 5 (2, 3))) _ acc from row_keep HBD HR.out)
            have lw2 : w.heap.size ≤ (wr.alloc (.cells #[.int .u8 45, .int .u8 45] 5 (2, 3))).heap.size := HW2.out.size
            cases htok : tokAt T k with
            | none =>
              have HE2 : Hid (tokens T = ([], 4, k)) := by
                show _ = _
                rw [HE.out, ← HS.out]
                exact scan_none hlt hbl hpd htok
              rw [htok] at HK
              have HK2 : Hid (Calls Tryd.prog 17 #[.slice (some ⟨b, o, none⟩) T.size cap, .int .i64 (k : Int)] (wr.alloc (.cells #[.int .u8 45, .int .u8 45] 5 (2, 3))) fun e w' => e = .returned (.tuple #[.agg #[.int .i64 0, .string ⟨#[]⟩, .int .i64 0, .int .i64 0], .int .i64 (k : Nat)]) ∧ Below (wr.alloc (.cells #[.int .u8 45, .int .u8 45] 5 (2, 3))).heap.size (wr.alloc (.cells #[.int .u8 45, .int .u8 45] 5 (2, 3))) w') := HK
              clear HP HK hpd htok HBD hz0 hz1 hz2 hi0 lw2
              generalize bN T k = x0 at *
              go_wp2_with (first
                | (go_at_call 14; refine (isSourceBlank_any _ _).mono ?_; rintro e w' ⟨rfl, hw⟩; have hw := hw.symm; subst hw; rw [hbl])
                | (go_at_call 15; refine HP2.out.mono ?_; rintro e w' ⟨rfl, hw⟩; have hw := hw.symm; subst hw)
                | (go_at_call 17; refine HK2.out.mono ?_; rintro e w3 ⟨rfl, hb3⟩; have HB3 := hide hb3; clear hb3)
                | fail)
              refine bodyPost_ret (results_tmp3 Tryd.results6 _ _ _) rfl ?_
              rw [HE2.out]
              exact ⟨_, rfl, World.ownsRow_nil _ _ _ _, bel_alloc (bel_trans HW2.out HB3.out) _⟩
            | some x =>
              obtain ⟨tk, en⟩ := x
              obtain ⟨g1, g2, g3, g4, g5, g6⟩ := tok_at hlt htok
              have HS2 := hide ((scan_some (acc := acc) hlt hbl hpd htok).symm.trans HS.out)
              rw [htok] at HK
              have HK2 : Hid (Calls Tryd.prog 17 #[.slice (some ⟨b, o, none⟩) T.size cap, .int .i64 (k : Int)] (wr.alloc (.cells #[.int .u8 45, .int .u8 45] 5 (2, 3))) fun e w' => e = .returned (.tuple #[.agg #[.int .i64 tk.k, .string tk.s, .int .i64 tk.n, .int .i64 tk.p], .int .i64 (en : Nat)]) ∧ Below (wr.alloc (.cells #[.int .u8 45, .int .u8 45] 5 (2, 3))).heap.size (wr.alloc (.cells #[.int .u8 45, .int .u8 45] 5 (2, 3))) w') := HK
              have hne : ((en : Int) == (k : Int)) = false := by simp; omega
              clear HP HK hpd htok HBD g5 g6 g4 g3 HS
              generalize bN T k = x0 at *
              generalize hk0 : (tk.k : Int) = K0 at *
              generalize hn0 : (tk.n : Int) = N0 at *
              generalize hp0 : (tk.p : Int) = P0 at *
              have HTK : Hid (tkC (acc ++ [tk]) = tkC acc ++ [.int .i64 K0, .string tk.s, .int .i64 N0, .int .i64 P0]) := by show _ = _; rw [tkC_snoc, hk0, hn0, hp0]
              clear hk0 hn0 hp0
              go_wp2_with (first
                | (go_at_call 14; refine (isSourceBlank_any _ _).mono ?_; rintro e w' ⟨rfl, hw⟩; have hw := hw.symm; subst hw; rw [hbl])
                | (go_at_call 15; refine HP2.out.mono ?_; rintro e w' ⟨rfl, hw⟩; have hw := hw.symm; subst hw)
                | (go_at_call 17; refine HK2.out.mono ?_; rintro e w3 ⟨rfl, hb3⟩; have HB3 := hide hb3; have HR3 := hide (row_keep hb3 HR2.out); have HW3 := hide (bel_trans HW2.out hb3); have lw3 := HW3.out.size; clear hb3)
                | (at_builtin; refine wpList_append_own _ rfl _ _ 24 rfl w.heap.size 29 i0 (.agg #[.int .i64 0, .string ⟨#[]⟩, .int .i64 0, .int .i64 0]) 4 40 Tryd.underlying24 hi0 hz0 hz1 hz2 rfl (by decide) _ acc.length (tkC acc) rfl ((HR3.out.alloc _).alloc _) ⟨w3.heap.size + 1, 0, none⟩ 1 1 [.int .i64 K0, .string tk.s, .int .i64 N0, .int .i64 P0] rfl rfl ?c1 ?c2 ?c3 ?c4 ?c5 ?_)
                | fail)
              case c1 => exact World.news_of_block (cs := #[.int .i64 K0, .string tk.s, .int .i64 N0, .int .i64 P0]) (t := 29) (fr := (0, 0)) (alloc2_block w3 _ _)
              case c2 => intro u hu; simp at hu; rcases hu with rfl | rfl | rfl | rfl <;> rfl
              case c3 => unfold maxLen; omega
              case c4 => omega
              case c5 => simp; omega
              intro tv6 w6 hown6 hgrow6 _
              have HW6 := hide ((bel_alloc (bel_alloc HW3.out (.cells #[.int .i64 K0, .string tk.s, .int .i64 N0, .int .i64 P0] 29)) (.cells #[.int .i64 K0, .string tk.s, .int .i64 N0, .int .i64 P0] 29)).grown hgrow6 (by simp; omega) (fun j hj => (HR3.out.lt j hj).1))
              have HR6 : Hid (TkRow w.heap.size w6 tv6 (acc ++ [tk])) := by
                show World.ownsRow _ _ _ _ _ _ _
                rw [HTK.out, List.length_append]
                exact hown6
              clear hown6 hgrow6
              obtain ⟨ta6, tc6, rfl⟩ := row_form HR6.out
              go_wp2_with fail
              go_roundw
              case rel => exact ⟨en, acc ++ [tk], by omega, by simp; omega, by go_num, HR6.out, HS2.out, HW6.out⟩
              case measure => simp [intOf]; omega
          · have hst := scan_note (acc := acc) hlt hbl hpd
            obtain ⟨g1, g2, g3⟩ := hst
            have HN := noteEnd_any (wr.alloc (.cells #[.int .u8 45, .int .u8 45] 5 (2, 3))) b o T (bytes_keep HBD HC.out) k cap (by omega) (by omega)
            rw [g3] at HS
            rw [hpd] at HP
            have HP2 := hide HP
            have HN2 := hide HN
            have HR2 := hide (show TkRow w.heap.size (wr.alloc (.cells #[.int .u8 45, .int .u8 45] 5 (2, 3))) _ acc from row_keep HBD HR.out)
            have hbl2 := hide hbl
            clear HP HN hbl hpd g3 HBD
            generalize stopAt (noteP T) T.size k = S at *
            generalize bN T k = x0 at *
            go_wp2_with (first
              | (go_at_call 14; refine (isSourceBlank_any _ _).mono ?_; rintro e w' ⟨rfl, hw⟩; have hw := hw.symm; subst hw; rw [hbl2.out])
              | (go_at_call 15; refine HP2.out.mono ?_; rintro e w' ⟨rfl, hw⟩; have hw := hw.symm; subst hw)
              | (go_at_call 16; refine HN2.out.mono ?_; rintro e w' ⟨rfl, hw⟩; have hw := hw.symm; subst hw)
              | fail)
            go_roundw
            case rel => exact ⟨S, acc, by omega, by omega, by go_num, HR2.out, HS.out, HW2.out⟩
            case measure => simp [intOf]; omega
        · have HS2 := hide ((scan_blank (acc := acc) hlt hbl).symm.trans HS.out)
          clear HS
          generalize bN T k = x0 at *
          go_wp2_with (first
            | (go_at_call 14; refine (isSourceBlank_any _ _).mono ?_; rintro e w' ⟨rfl, hw⟩; have hw := hw.symm; subst hw; rw [hbl])
            | fail)
          go_roundw
          case rel => exact ⟨k + 1, acc, by omega, by omega, by go_num, HR.out, HS2.out, HW.out⟩
          case measure => simp [intOf]; omega
      · have HE2 : Hid (tokens T = (acc, 0, 0)) := by
          show _ = _
          rw [HE.out, ← HS.out]
          exact scan_end (by omega)
        have hlt' : ¬ (k : Int) < T.size := by omega
        go_wp2_with fail
        refine bodyPost_ret (results_tmp3 Tryd.results6 _ _ _) rfl ?_
        rw [HE2.out]
        exact ⟨_, rfl, HR.out, HW.out⟩
end Go.Proofs.YtmdcdapjjodpiaaDoor
