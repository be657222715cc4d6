/- Ahead of the walk of FnSpaced: sizes; three digits made a text. -/
import Derived.Test.YtmdcdapjjodpiaaDoorDto
import Derived.Test.YtmdcdapjjodpiaaDoorSpb
namespace Go.Proofs.YtmdcdapjjodpiaaDoor
open Go.ChangeShapes Go.WideShapes Go.ChangeAt Go.RowKit

theorem scan_len (T : ByteArray) : ∀ (m i : Nat) (acc : List Tk), T.size - i ≤ m → acc.length ≤ i → i ≤ T.size → (scan T i acc).1.length ≤ T.size := by
  intro m
  induction m with
  | zero =>
    intro i acc h1 h2 h3
    rw [scan_end (by omega)]
    show acc.length ≤ _
    omega
  | succ m ih =>
    intro i acc h1 h2 h3
    by_cases hi : i < T.size
    · cases hb : blankB (bN T i)
      · cases hp : preB dashB T i
        · cases ht : tokAt T i with
          | none => rw [scan_none hi hb hp ht]; simp
          | some x =>
            obtain ⟨tk, e⟩ := x
            have hg := tok_at hi ht
            rw [scan_some hi hb hp ht]
            exact ih e _ (by omega) (by simp; omega) (by omega)
        · obtain ⟨g1, g2, g3⟩ := scan_note (acc := acc) hi hb hp
          rw [g3]
          exact ih _ _ (by omega) (by omega) (by omega)
      · rw [scan_blank hi hb]
        exact ih _ _ (by omega) (by omega) (by omega)
    · rw [scan_end (by omega)]
      show acc.length ≤ _
      omega
theorem tokens_len (T : ByteArray) : (tokens T).1.length ≤ 20000 := by
  unfold tokens
  split
  · have := scan_len T T.size 0 [] (by omega) (by simp) (by omega)
    omega
  · simp
theorem tokens_size (T : ByteArray) : ∀ tk ∈ (tokens T).1, tk.s.size ≤ 20000 ∧ tk.n ≤ 999 := by
  intro tk h
  by_cases hT : T.size ≤ 20000
  · obtain ⟨i, e, hi, ht⟩ := tokens_from T tk h
    have := tok_at hi ht
    omega
  · unfold tokens at h
    rw [if_neg hT] at h
    simp at h
theorem piece_size {tk : Tk} (h : tk.s.size ≤ 20000) : (pieceB tk).size ≤ 20000 := by
  unfold pieceB
  split
  · show (3 : Nat) ≤ 20000; omega
  · exact h
theorem lineB_len {ts : List Tk} (h : ∀ tk ∈ ts, tk.s.size ≤ 20000) : (lineB ts).length ≤ ts.length * 20001 := by
  induction ts with
  | nil => simp [lineB]
  | cons tk ts ih =>
    rw [lineB_cons]
    have h1 := piece_size (h tk (by simp))
    have h2 := ih (fun x hx => h x (by simp [hx]))
    have hl : (pieceB tk).data.toList.length = (pieceB tk).size := by simp
    simp only [List.length_append, List.length_cons, List.length_nil]
    omega

theorem dig_conv {N : Nat} (hn : N ≤ 999) (W : World) (b : Nat) (c : Nat)
    (h0 : W.cell? ⟨b, 0, none⟩ = some (.int .u8 (48 + (N : Int) / 100))) (h1 : W.cell? ⟨b, 1, none⟩ = some (.int .u8 (48 + (N : Int) / 10 % 10))) (h2 : W.cell? ⟨b, 2, none⟩ = some (.int .u8 (48 + (N : Int) % 10))) :
    (convert 22 9 (.slice (some ⟨b, 0, none⟩) 3 c)).run Tryd.prog W = .ok (.string (dig3 N)) W := by
  have := run_convert_bytes_back (P := Tryd.prog) W 22 9 5 ⟨b, 0, none⟩ c [UInt8.ofNat (48 + N / 100), UInt8.ofNat (48 + N / 10 % 10), UInt8.ofNat (48 + N % 10)] Tryd.underlying22 Tryd.underlying5 Tryd.underlying9 (fun j hj => by
    have hj : j < 3 := hj
    rw [Addr.add_lit, Nat.zero_add]
    rcases (show j = 0 ∨ j = 1 ∨ j = 2 by omega) with rfl | rfl | rfl
    · rw [h0]
      show _ = some (Value.int .u8 ((UInt8.ofNat (48 + N / 100)).toNat : Int))
      rw [dig_of (by omega)]
      congr 2
    · rw [h1]
      show _ = some (Value.int .u8 ((UInt8.ofNat (48 + N / 10 % 10)).toNat : Int))
      rw [dig_of (by omega)]
      congr 2
    · rw [h2]
      show _ = some (Value.int .u8 ((UInt8.ofNat (48 + N % 10)).toNat : Int))
      rw [dig_of (by omega)]
      congr 2)
  exact this
theorem wr64 {x : Int} (h0 : 0 ≤ x) (h : x ≤ 100000) : IntKind.i64.wrap x = x := by rw [IntKind.wrap_i64]; omega
theorem wr8 {x : Int} (h0 : 0 ≤ x) (h : x ≤ 255) : IntKind.u8.wrap x = x := by rw [IntKind.wrap_u8]; omega
theorem dig_raw {N : Nat} (hn : N ≤ 999) (W : World) :
    (convert 22 9 (.slice (some ⟨W.heap.size, 0, none⟩) 3 3)).run Tryd.prog (W.alloc (.cells #[.int .u8 (IntKind.u8.wrap (IntKind.i64.wrap (48 + IntKind.i64.wrap ((N : Int) / 100)))), .int .u8 (IntKind.u8.wrap (IntKind.i64.wrap (48 + (IntKind.i64.wrap ((N : Int) / 10)).tmod 10))), .int .u8 (IntKind.u8.wrap (IntKind.i64.wrap (48 + (N : Int).tmod 10)))] 5)).drew =
      .ok (.string (dig3 N)) (W.alloc (.cells #[.int .u8 (IntKind.u8.wrap (IntKind.i64.wrap (48 + IntKind.i64.wrap ((N : Int) / 100)))), .int .u8 (IntKind.u8.wrap (IntKind.i64.wrap (48 + (IntKind.i64.wrap ((N : Int) / 10)).tmod 10))), .int .u8 (IntKind.u8.wrap (IntKind.i64.wrap (48 + (N : Int).tmod 10)))] 5)).drew := by
  have e0 : IntKind.u8.wrap (IntKind.i64.wrap (48 + IntKind.i64.wrap ((N : Int) / 100))) = 48 + (N : Int) / 100 := by
    rw [wr64 (x := (N : Int) / 100) (by omega) (by omega), wr64 (by omega) (by omega), wr8 (by omega) (by omega)]
  have e1 : IntKind.u8.wrap (IntKind.i64.wrap (48 + (IntKind.i64.wrap ((N : Int) / 10)).tmod 10)) = 48 + (N : Int) / 10 % 10 := by
    rw [wr64 (x := (N : Int) / 10) (by omega) (by omega), Int.tmod_eq_emod_of_nonneg (by omega), wr64 (by omega) (by omega), wr8 (by omega) (by omega)]
  have e2 : IntKind.u8.wrap (IntKind.i64.wrap (48 + (N : Int).tmod 10)) = 48 + (N : Int) % 10 := by
    rw [Int.tmod_eq_emod_of_nonneg (by omega), wr64 (by omega) (by omega), wr8 (by omega) (by omega)]
  rw [e0, e1, e2]
  exact dig_conv hn _ _ 3 (by rw [World.cell?_drew, World.cell?_alloc_new]; rfl) (by rw [World.cell?_drew, World.cell?_alloc_new]; rfl) (by rw [World.cell?_drew, World.cell?_alloc_new]; rfl)
end Go.Proofs.YtmdcdapjjodpiaaDoor
