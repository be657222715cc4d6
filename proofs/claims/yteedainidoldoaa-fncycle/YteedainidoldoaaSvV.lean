/- The program's leastNumbers, walked. -/
import Derived.Test.YteedainidoldoaaSvU
import Derived.Test.YteedainidoldoaaMeetsImpl
namespace Go.Proofs.Yteedainidoldoaa
open Go.ChangeShapes Go.WideShapes Go.ChangeAt Go.RowKit

/-- What leastNumbers answers: the least numbers, or that there are none. -/
def LnOut (m : Nat) (ct : List Ct) (w : World) (e : Ending) (w' : World) : Prop :=
  Below w.heap.size w w' ∧ ((∃ v ks, e = .returned (.tuple #[v, .bool true]) ∧ w'.ownsRow w.heap.size 3 1 v m (ks.map (fun k => .int .i64 k)) ∧ ks.length = m ∧ Sol m ct (fnV ks) ∧ ∀ x, Sol m ct x → ∀ j, j ≤ m → fnV ks j ≤ x j) ∨
    (e = .returned (.tuple #[.slice none 0 0, .bool false]) ∧ ¬ ∃ x, Sol m ct x))
theorem HS.side {w : World} {rb k : Nat} {M : Rp → Prop} (h : HS w rb M) (ho : Off w rb k) (o : Nat) (u : Value) : HS (w.setCell ⟨k, o, none⟩ u) rb M := by
  obtain ⟨n, f, q, h1, h2⟩ := h
  exact ⟨n, f, q, h1.side ho o u, h2⟩
theorem HS.off {w w' : World} {rb : Nat} {M : Rp → Prop} (h : HS w rb M) (hb : Below w.heap.size w w') {k : Nat} (hk : w.heap.size ≤ k) : Off w' rb k := by
  obtain ⟨n, f, q, h1, _⟩ := h
  exact h1.off hb hk
/-- What lies below the heap is off it. -/
theorem HS.under {w : World} {rb : Nat} {M : Rp → Prop} (h : HS w rb M) {k : Nat} (hk : k < rb) : Off w rb k := by
  obtain ⟨n, f, q, h1, _⟩ := h
  refine ⟨by omega, fun v hv e => ?_⟩
  obtain ⟨v0, xs, h2, h3, _⟩ := h1.lst
  rw [h2] at hv
  cases hv
  rcases h3.2 with ⟨rfl, _⟩ | ⟨g, cap, cur, rfl, hg, _⟩
  · cases e
  · have e2 : g = k := by simpa [Value.ownBlock] using e
    omega
theorem ArrAt.put {w : World} {b : Nat} {f : Nat → Int} (h : ArrAt w b f) (s : Nat) (v : Int) : ArrAt (w.setCell ⟨b, s, none⟩ (.int .i64 v)) b (upN f s v) := fun j hj => by
  by_cases e : j = s
  · subst e
    rw [upN_same]
    exact World.cell?_setCell_same _ _ _ (h j hj)
  · rw [upN_ne f v e, World.cell?_setCell_other _ _ _ _ (by simp <;> omega)]
    exact h j hj
theorem HS.congr {w : World} {rb : Nat} {M M' : Rp → Prop} (he : ∀ p, M p ↔ M' p) (h : HS w rb M) : HS w rb M' := by
  have e : M = M' := funext fun p => propext (he p)
  rw [← e]
  exact h
theorem ArrAt.frh {w w' : World} {b : Nat} {f : Nat → Int} (h : ArrAt w b f) (hf : FrH (b + 1) w w') : ArrAt w' b f := fun j hj => by
  rw [hf.bel.cell (p := ⟨b, j, none⟩) (by show b < b + 1; omega)]
  exact h j hj
theorem frz_frh {w w' : World} {b : Nat} (h : ∀ j, w.frozen? ⟨b, j, none⟩ = false) (hf : FrH (b + 1) w w') : ∀ j, w'.frozen? ⟨b, j, none⟩ = false := fun j => by
  rw [hf.bel.frozen (p := ⟨b, j, none⟩) (by show b < b + 1; omega)]
  exact h j
theorem arr0_new (w : World) (C : Array Value) (t : TypeId) (hC : C = Array.replicate 31 (.int .i64 0)) (o : Obj) : ArrAt ((w.alloc (.cells C t)).alloc o) w.heap.size (fun _ => 0) := fun j hj => by
  have h := (arr_new w C t hC []).keep (bel_alloc (Below.refl _ _) o) j hj
  have e : arrOf [] 0 j = 0 := by unfold arrOf; rw [if_neg (by omega)]
  rw [e] at h
  exact h
theorem frz0_new (w : World) (C : Array Value) (t : TypeId) (o : Obj) : ∀ j, ((w.alloc (.cells C t)).alloc o).frozen? ⟨w.heap.size, j, none⟩ = false := fun j => by
  rw [(bel_alloc (Below.refl (w.alloc (.cells C t)).heap.size (w.alloc (.cells C t))) o).frozen (p := ⟨w.heap.size, j, none⟩) (by simp)]
  exact World.frozen?_alloc_new _ _ _ _
theorem lenS_some (rb : Nat) (M : Rp → Prop) (w : World) (h : HS w rb M) (hM : ∃ p, M p) :
    Calls Try.prog 37 #[.pointer (some ⟨rb, 0, none⟩)] w fun e w' => ∃ n : Nat, e = .returned (.int .i64 n) ∧ w' = w ∧ (0 : Int) < n := by
  refine (lenS_any rb M w h).mono ?_
  rintro e w' ⟨n, rfl, rfl, h1⟩
  refine ⟨n, rfl, rfl, ?_⟩
  obtain ⟨p, hp⟩ := hM
  have : n ≠ 0 := fun e0 => h1.1 e0 p hp
  omega
theorem lenS_none (rb : Nat) (M : Rp → Prop) (w : World) (h : HS w rb M) (hM : ¬ ∃ p, M p) :
    Calls Try.prog 37 #[.pointer (some ⟨rb, 0, none⟩)] w fun e w' => e = .returned (.int .i64 0) ∧ w' = w := by
  refine (lenS_any rb M w h).mono ?_
  rintro e w' ⟨n, rfl, rfl, h1⟩
  have e0 : n = 0 := h1.2 (fun p hp => hM ⟨p, hp⟩)
  subst e0
  exact ⟨rfl, rfl⟩
/-- All that is known between two sides that are taken off the heap. -/
structure OuS (m : Nat) (ct : List Ct) (w : World) (f : Nat → Int) (M : Rp → Prop) (T : Int) (wr : World) : Prop where
  ln : LN m ct f M T
  hs : HS wr (w.heap.size + 1) M
  arr : ArrAt wr w.heap.size f
  frz : ∀ j, wr.frozen? ⟨w.heap.size, j, none⟩ = false
  bel : Below w.heap.size w wr
/-- All that is known while the constraints are looked at for a side. -/
structure InS (m : Nat) (ct : List Ct) (w : World) (T : Int) (p : Rp) (fb i : Nat) (f : Nat → Int) (M : Rp → Prop) (wr : World) : Prop where
  li : LI m ct f M T p.1 p.2 i
  hs : HS wr (w.heap.size + 1) M
  arr : ArrAt wr w.heap.size f
  frz : ∀ j, wr.frozen? ⟨w.heap.size, j, none⟩ = false
  bel : Below w.heap.size w wr
  c0 : wr.cell? ⟨fb, 0, none⟩ = some (.int .i64 p.1)
  c1 : wr.cell? ⟨fb, 1, none⟩ = some (.int .i64 p.2)
  off : Off wr (w.heap.size + 1) fb
  hfb : w.heap.size + 1 < fb
theorem InS.keep {m : Nat} {ct : List Ct} {w : World} {T : Int} {p : Rp} {fb i : Nat} {f : Nat → Int} {M : Rp → Prop} {wr W : World} (h : InS m ct w T p fb i f M wr) (hb : Below wr.heap.size wr W) : InS m ct w T p fb i f M W :=
  ⟨h.li, h.hs.keep hb, h.arr.keep hb, fun j => by rw [hb.frozen (p := ⟨w.heap.size, j, none⟩) (lt_cell (h.arr 0 (by omega)))]; exact h.frz j, bel_trans h.bel hb, keep_cell hb h.c0, keep_cell hb h.c1, ((FrH.keep hb h.hs.lt).off fb (lt_cell h.c0) h.off).2, h.hfb⟩
theorem InS.skip {m : Nat} {ct : List Ct} {w : World} {T : Int} {p : Rp} {fb i : Nat} {f : Nat → Int} {M : Rp → Prop} {wr : World} (h : InS m ct w T p fb i f M wr) (hi : i < ct.length) (hs : (ct[i].a : Int) ≠ p.2 + 1 ∨ met f ct[i]) : InS m ct w T p fb (i + 1) f M wr :=
  ⟨h.li.skip hi hs, h.hs, h.arr, h.frz, h.bel, h.c0, h.c1, h.off, h.hfb⟩
/-- A number is raised: it is written, and its side is put on the heap. -/
theorem InS.raise {m : Nat} {ct : List Ct} {w : World} {T : Int} {p : Rp} {fb i : Nat} {f : Nat → Int} {M : Rp → Prop} {wr w2 : World} (h : InS m ct w T p fb i f M wr) (hm : m ≤ 30) (ho : Okc m ct) (hN : ∀ c ∈ ct, c.n ≤ 1000) (hi : i < ct.length) (hs : (ct[i].a : Int) = p.2 + 1) (hmet : ¬ met f ct[i]) (hb : ct[i].b ≠ 0) (hr : p.1 ≠ m)
    (hq : HS w2 (w.heap.size + 1) (fun x => M x ∨ (x = (p.1 + 1, (ct[i].b : Int) - 1) ∧ ¬ ∃ r', M (r', (ct[i].b : Int) - 1)))) (hf : FrH (w.heap.size + 1) (wr.setCell ⟨w.heap.size, ct[i].b, none⟩ (.int .i64 (f ct[i].a + ct[i].n))) w2) :
    InS m ct w T p fb (i + 1) (upN f ct[i].b (f ct[i].a + ct[i].n)) (fun x => M x ∨ (x = (p.1 + 1, (ct[i].b : Int) - 1) ∧ ¬ ∃ r', M (r', (ct[i].b : Int) - 1))) w2 := by
  have hfb := h.hfb
  have hlt := lt_cell h.c0
  have ho2 : Off (wr.setCell ⟨w.heap.size, ct[i].b, none⟩ (.int .i64 (f ct[i].a + ct[i].n))) (w.heap.size + 1) fb := ⟨h.off.1, fun v hv => h.off.2 v (by rw [World.cell?_setCell_other _ _ _ _ (by simp <;> omega)] at hv; exact hv)⟩
  have e0 : (wr.setCell ⟨w.heap.size, ct[i].b, none⟩ (.int .i64 (f ct[i].a + ct[i].n))).cell? ⟨fb, 0, none⟩ = some (.int .i64 p.1) := by rw [World.cell?_setCell_other _ _ _ _ (by simp <;> omega)]; exact h.c0
  have e1 : (wr.setCell ⟨w.heap.size, ct[i].b, none⟩ (.int .i64 (f ct[i].a + ct[i].n))).cell? ⟨fb, 1, none⟩ = some (.int .i64 p.2) := by rw [World.cell?_setCell_other _ _ _ _ (by simp <;> omega)]; exact h.c1
  exact ⟨h.li.raise hm ho hN hi hs hmet hb hr, hq, (h.arr.put ct[i].b _).frh hf, frz_frh (fun j => by rw [World.frozen?_setCell]; exact h.frz j) hf, (h.bel.setCell (p := ⟨_, _, _⟩) (Nat.le_refl _) _).trans (hf.bel.mono (by omega)), ho2.cell hf e0, ho2.cell hf e1, (hf.off fb (by simpa using hlt) ho2).2, hfb⟩
theorem sol_congr {m : Nat} {ct : List Ct} {f g : Nat → Int} (ho : Okc m ct) (he : ∀ j, j ≤ m → g j = f j) (h : Sol m ct f) : Sol m ct g :=
  ⟨by rw [he 0 (Nat.zero_le _)]; exact h.zero, fun j hj => by rw [he j hj]; exact h.pos j hj, fun c hc => by
    have h1 := h.all c hc
    unfold met at *
    rw [he _ (ho c hc).1, he _ (ho c hc).2]
    exact h1⟩
theorem heap_new (w : World) (C : Array Value) (hC : C = #[.slice none 0 0] ++ Array.replicate 31 (.bool false)) (rb : Nat) (hrb : rb = w.heap.size) : HS (w.alloc (.cells C 63)) rb (fun _ => False) := by
  subst hC hrb
  refine ⟨0, fun _ => (0, 0), fun _ => false, ⟨⟨.slice none 0 0, [], ?_, World.ownsRow_nil _ _ _ _, fun k hk => by omega⟩, fun j hj => ?_, fun j => World.frozen?_alloc_new _ _ _ _⟩, fun k _ hk => by omega, fun i j hi => by omega, fun p => ⟨fun ⟨k, hk, _⟩ => by omega, fun h => h.elim⟩, fun p hp => hp.elim, fun j hj => ⟨fun h => (by cases h), fun ⟨_, h⟩ => h.elim⟩⟩
  · rw [World.cell?_alloc_new]; rfl
  · rw [World.cell?_alloc_new]
    rw [Array.getElem?_append_right (by simp)]
    simp [hj]

set_option maxRecDepth 20000 in
set_option maxHeartbeats 16000000 in
theorem leastNumbers_any (m : Nat) (v : Value) (cs : List Cn) (w : World) (hn : ConsAt w v cs) (hok : consB m cs = true) :
    Calls Try.prog 25 #[.int .i64 m, v] w (LnOut m (cs.map ctC) w) := by
  have HN := hide hn
  obtain ⟨a2, cap2, rfl, hlc2, hcm2, hc2⟩ := hn
  unfold maxLen at hcm2
  have H2 := hide hc2
  clear hc2
  obtain ⟨⟨g1, g2, g3⟩, g4⟩ := consB_yes hok
  have HS4 := hide g4
  have hm30 : m ≤ 30 := by omega
  have HOC : Hid (Okc m (cs.map ctC)) := by
    intro c hc
    obtain ⟨d, hd, rfl⟩ := List.mem_map.1 hc
    obtain ⟨q, hq, rfl⟩ := List.getElem_of_mem hd
    obtain ⟨s1, s2, s3, s4, s5, s6⟩ := g4 q hq
    exact ⟨by show (cs[q].a + 1).toNat ≤ m; omega, by show (cs[q].b + 1).toNat ≤ m; omega⟩
  have HNC : Hid (∀ c ∈ cs.map ctC, c.n ≤ 1000) := by
    intro c hc
    obtain ⟨d, hd, rfl⟩ := List.mem_map.1 hc
    obtain ⟨q, hq, rfl⟩ := List.getElem_of_mem hd
    exact (g4 q hq).2.2.2.2.2
  have HLC : Hid ((cs.map ctC).length ≤ 100) := by show _ ≤ _; rw [List.length_map]; omega
  clear g4 hok g1 g2
  go_enter Try.func25, Try.ntmps25
  go_wp2_with fail
  go_loopw [8] (fun r wr => ∃ (k : Nat), k ≤ m + 1 ∧ r = .int .i64 ((k : Int) - 1) ∧ Hid (HS wr (w.heap.size + 1) (fun p => p.1 = 0 ∧ -1 ≤ p.2 ∧ p.2 < (k : Int) - 1) ∧ ArrAt wr w.heap.size (fun _ => 0) ∧ (∀ j, wr.frozen? ⟨w.heap.size, j, none⟩ = false) ∧ Below w.heap.size w wr)) (fun r _ => m + 1 - (intOf r + 1).toNat)
  case atStart =>
    exact ⟨0, by omega, rfl, HS.congr (fun p => ⟨fun h => h.elim, fun h => by omega⟩) (heap_new _ _ rfl _ (World.size_alloc _ _).symm), arr0_new w _ _ rfl _, frz0_new w _ _ _, bel_alloc (bel_alloc (Below.refl _ _) _) _⟩
  case round =>
    obtain ⟨k, hk, rfl, HR⟩ := hrel
    by_cases hlt : k < m + 1
    · have hlt' : (k : Int) - 1 < m := by omega
      have HA := hide (add_any (w.heap.size + 1) _ 0 ((k : Int) - 1) wr HR.out.1 (by omega) (by omega))
      have hwk : IntKind.i64.wrap ((k : Int) - 1 + 1) = ((k + 1 : Nat) : Int) - 1 := by rw [IntKind.wrap_i64]; omega
      go_wp2_with (first
        | (go_at_call 36; refine HA.out.mono ?_; rintro e w1 ⟨⟨v1, rfl⟩, hs1, hf1⟩; have Q1 := hide (And.intro hs1 hf1); clear hs1 hf1)
        | fail)
      go_roundw
      case rel =>
        obtain ⟨q1, q2⟩ := Q1.out
        obtain ⟨_, r2, r3, r4⟩ := HR.out
        refine ⟨k + 1, by omega, by go_num, q1.congr (fun p => ?_), r2.frh q2, frz_frh r3 q2, r4.trans (q2.bel.mono (by omega))⟩
        constructor
        · rintro (h | ⟨rfl, _⟩)
          · obtain ⟨h1, h2, h3⟩ := h
            exact ⟨h1, h2, by omega⟩
          · refine ⟨rfl, ?_, ?_⟩
            · show -1 ≤ (k : Int) - 1
              omega
            · show (k : Int) - 1 < ((k + 1 : Nat) : Int) - 1
              omega
        · intro h
          by_cases e : p.2 = (k : Int) - 1
          · refine .inr ⟨Prod.ext h.1 e, ?_⟩
            rintro ⟨r', h'⟩
            have h3 : (k : Int) - 1 < (k : Int) - 1 := h'.2.2
            omega
          · obtain ⟨h1, h2, h3⟩ := h
            exact .inl ⟨h1, h2, by omega⟩
      case measure => simp [intOf]; omega
    · have ek : k = m + 1 := by omega
      subst ek
      have hlt' : ¬ (((m + 1 : Nat) : Int) - 1 < m) := by omega
      have HO0 : Hid (∃ f M T, OuS m (cs.map ctC) w f M T wr ∧ 0 ≤ T ∧ ((1000 : Nat) : Int) + T = 1000) := by
        obtain ⟨q1, q2, q3, q4⟩ := HR.out
        exact ⟨fun _ => 0, _, 0, ⟨LN.start m _ HOC.out, q1.congr (fun p => by constructor <;> intro h <;> omega), q2, q3, q4⟩, Int.le_refl 0, by omega⟩
      clear HR hlt hk
      go_wp2_with fail
      go_loopg [9] 1000 (fun gk r9 wr => Hid (∃ f M T, OuS m (cs.map ctC) w f M T wr ∧ 0 ≤ T ∧ (gk : Int) + T = 1000))
      case atStart => exact HO0
      case round =>
        clear HO0
        obtain ⟨f, M, T, ho, hT0, hgk⟩ := hrel.out
        have HO := hide ho
        have HT := hide (And.intro hT0 hgk)
        clear hrel ho hT0 hgk
        by_cases hM : ∃ p, M p
        · have HNX := hide (next_any (w.heap.size + 1) M wr HO.out.hs hM)
          have HLEN := hide (lenS_some (w.heap.size + 1) M wr HO.out.hs hM)
          clear hM
          go_wp2_with (first
            | (go_at_call 37; refine HLEN.out.mono ?_; rintro e w1 ⟨n1, rfl, rfl, hn1⟩)
            | (go_at_call 38; refine HNX.out.mono ?_; rintro e w2 ⟨p, rfl, hp1, hp2, hp3, hp4⟩; have HP := hide (And.intro hp1 (And.intro hp2 (And.intro hp3 hp4))); clear hp1 hp2 hp3 hp4)
            | fail)
          have HI0 : Hid (∃ f M, InS m (cs.map ctC) w T p w2.heap.size 0 f M (w2.alloc (.cells #[.int .i64 p.1, .int .i64 p.2] 65))) := by
            obtain ⟨p1, p2, p3, p4⟩ := HP.out
            have hb := bel_alloc (Below.refl w2.heap.size w2) (.cells #[.int .i64 p.1, .int .i64 p.2] 65)
            have h4 := p3.lt
            refine ⟨f, _, HO.out.ln.pop hm30 p1 p2, p3.keep hb, (HO.out.arr.frh p4).keep hb, fun j => ?_, bel_trans (HO.out.bel.trans (p4.bel.mono (by omega))) hb, by rw [World.cell?_alloc_new]; rfl, by rw [World.cell?_alloc_new]; rfl, p3.off hb (Nat.le_refl _), h4⟩
            rw [hb.frozen (p := ⟨w.heap.size, j, none⟩) (by show w.heap.size < w2.heap.size; omega)]
            exact frz_frh HO.out.frz p4 j
          have HPO : Hid (0 ≤ p.1 ∧ p.1 ≤ m ∧ -1 ≤ p.2 ∧ p.2 < m ∧ T ≤ p.1 * 32 + p.2 + 1) := by
            obtain ⟨a1, a2, a3, a4⟩ := HO.out.ln.rng p HP.out.1
            exact ⟨a1, a2, a3, a4, HO.out.ln.key p HP.out.1⟩
          clear HP HO HNX HLEN hn1
          obtain ⟨fb, hfb⟩ : ∃ fb, fb = w2.heap.size := ⟨_, rfl⟩
          rw [← hfb] at HI0 ⊢
          clear hfb
          obtain ⟨p1, p2⟩ := p
          simp only at HI0 HPO ⊢
          go_loopw [24] (fun r wr => ∃ (i : Nat), i ≤ cs.length ∧ r = .int .i64 i ∧ Hid (∃ f M, InS m (cs.map ctC) w T (p1, p2) fb i f M wr)) (fun r _ => cs.length - (intOf r).toNat)
          case atStart => exact ⟨0, by omega, rfl, HI0⟩
          case round =>
            clear HI0
            obtain ⟨i, hi, rfl, HI⟩ := hrel
            obtain ⟨f1, M1, hin⟩ := HI.out
            have HIN := hide hin
            clear HI hin
            by_cases hlt : i < cs.length
            · have hlt' : (i : Int) < cs.length := by omega
              have HL1 : Hid (i < (cs.map ctC).length) := by show _ < _; rw [List.length_map]; exact hlt
              obtain ⟨b, off, rfl, hc⟩ := H2.out (by omega)
              obtain ⟨c1, c2, c3⟩ := (hc i hlt).keep HIN.out.bel
              obtain ⟨s1, s2, s3, s4, s5, s6⟩ := HS4.out i hlt
              have HCT : Hid ((cs.map ctC)[i]'HL1.out = ctC cs[i]) := by show _ = _; rw [List.getElem_map]
              have d0 := HIN.out.c0
              have d1 := HIN.out.c1
              have hfbl := lt_cell d0
              have hbl := lt_cell c1
              simp only at d0 d1
              clear hc
              generalize cs[i] = cc at *
              obtain ⟨ca, cn, cb⟩ := cc
              simp only at c1 c2 c3 s1 s2 s3 s4 s5 s6
              have HCA : Hid (((((cs.map ctC)[i]'HL1.out).a : Nat) : Int) = ca + 1 ∧ ((((cs.map ctC)[i]'HL1.out).b : Nat) : Int) = cb + 1 ∧ ((cs.map ctC)[i]'HL1.out).n = cn ∧ ((cs.map ctC)[i]'HL1.out).a = (ca + 1).toNat ∧ ((cs.map ctC)[i]'HL1.out).b = (cb + 1).toNat) := by
                show _ ∧ _ ∧ _ ∧ _ ∧ _
                rw [HCT.out]
                exact ⟨by show (((ca + 1).toNat : Nat) : Int) = ca + 1; omega, by show (((cb + 1).toNat : Nat) : Int) = cb + 1; omega, rfl, rfl, rfl⟩
              have hw1 : IntKind.i64.wrap ((i : Int) + 1) = (i : Int) + 1 := by rw [IntKind.wrap_i64]; omega
              have HKW : Hid (∀ o, InS m (cs.map ctC) w T (p1, p2) fb i f1 M1 (wr.alloc o)) := fun o => HIN.out.keep (bel_alloc (Below.refl _ _) o)
              clear HCT HIN
              by_cases hca : ca = p2
              · have HMT : Hid (∀ W, InS m (cs.map ctC) w T (p1, p2) fb i f1 M1 W → Calls Try.prog 31 #[.pointer (some ⟨w.heap.size, 0, none⟩), .agg #[.int .i64 ca, .int .i64 cn, .int .i64 cb]] W fun e w'' => e = .returned (.bool (decide (f1 (ca + 1).toNat + cn ≤ f1 (cb + 1).toNat))) ∧ Below W.heap.size W w'') := by
                  intro W hW
                  obtain ⟨q1, q2, q3, q4, q5⟩ := HPO.out
                  have t1 := hW.li.top (ca + 1).toNat
                  have t2 := hW.li.top (cb + 1).toNat
                  exact meet_any w.heap.size ⟨ca, cn, cb⟩ f1 W hW.arr s1 (by show ca < 30; omega) s3 (by show cb < 30; omega) s5 s6 (hW.li.pos _) (by show f1 (ca + 1).toNat ≤ _; omega) (hW.li.pos _) (by show f1 (cb + 1).toNat ≤ _; omega)
                have HMET : Hid (met f1 ((cs.map ctC)[i]'HL1.out) ↔ f1 (ca + 1).toNat + cn ≤ f1 (cb + 1).toNat) := by
                  show _ ↔ _
                  unfold met
                  rw [HCA.out.2.2.1, HCA.out.2.2.2.1, HCA.out.2.2.2.2]
                by_cases hme : f1 (ca + 1).toNat + cn ≤ f1 (cb + 1).toNat
                · have HSK : Hid (∀ W, InS m (cs.map ctC) w T (p1, p2) fb i f1 M1 W → InS m (cs.map ctC) w T (p1, p2) fb (i + 1) f1 M1 W) := fun W hW => hW.skip HL1.out (.inr (HMET.out.2 hme))
                  have HDE : Hid (decide (f1 (ca + 1).toNat + cn ≤ f1 (cb + 1).toNat) = true) := by show _ = _; simpa using hme
                  subst hca
                  clear hme HMET HPO HCA
                  go_wp2_with (first
                    | (go_at_call 31; refine (HMT.out _ (HKW.out _)).mono ?_; rintro e w4 ⟨rfl, hb4⟩; rw [HDE.out]; have HB4 := hide hb4; clear hb4)
                    | fail)
                  go_roundw
                  case rel => exact ⟨i + 1, by omega, by go_num, ⟨f1, M1, HSK.out _ ((HKW.out _).keep HB4.out)⟩⟩
                  case measure => simp [intOf]; omega
                · have HNM : Hid (¬ met f1 ((cs.map ctC)[i]'HL1.out)) := fun h => hme (HMET.out.1 h)
                  have HDE : Hid (decide (f1 (ca + 1).toNat + cn ≤ f1 (cb + 1).toNat) = false) := by show _ = _; simpa using hme
                  have HSA : Hid ((((cs.map ctC)[i]'HL1.out).a : Int) = p2 + 1) := by show _ = _; rw [HCA.out.1, hca]
                  subst hca
                  clear hme HMET
                  by_cases hcb : cb = -1
                  · have HFL : Hid (∀ W, InS m (cs.map ctC) w T (p1, ca) fb i f1 M1 W → ¬ ∃ x, Sol m (cs.map ctC) x) := fun W hW => hW.li.fail HOC.out HL1.out HSA.out HNM.out (.inl (by rw [HCA.out.2.2.2.2, hcb]; rfl))
                    subst hcb
                    clear HPO HCA
                    go_wp2_with (first
                      | (go_at_call 31; refine (HMT.out _ (HKW.out _)).mono ?_; rintro e w4 ⟨rfl, hb4⟩; rw [HDE.out]; have HB4 := hide ((HKW.out _).keep hb4); have e3 := keep_cell hb4 (b := wr.heap.size) (o := 2) (v := .int .i64 (-1)) (by rw [World.cell?_alloc_new]; rfl); have e4 := HB4.out.c0; have e5 := HB4.out.c1; simp only at e4 e5; clear hb4)
                      | fail)
                    refine bodyPost_ret (v := .tuple #[.slice none 0 0, .bool false]) (by simp [results, Try.results25, go_sem]) rfl ⟨HB4.out.bel, .inr ⟨rfl, HFL.out _ HB4.out⟩⟩
                  · by_cases hpm : p1 = m
                    · have HFL : Hid (∀ W, InS m (cs.map ctC) w T (p1, ca) fb i f1 M1 W → ¬ ∃ x, Sol m (cs.map ctC) x) := fun W hW => hW.li.fail HOC.out HL1.out HSA.out HNM.out (.inr hpm)
                      subst hpm
                      clear HPO HCA
                      go_wp2_with (first
                        | (go_at_call 31; refine (HMT.out _ (HKW.out _)).mono ?_; rintro e w4 ⟨rfl, hb4⟩; rw [HDE.out]; have HB4 := hide ((HKW.out _).keep hb4); have e3 := keep_cell hb4 (b := wr.heap.size) (o := 2) (v := .int .i64 cb) (by rw [World.cell?_alloc_new]; rfl); have e4 := HB4.out.c0; have e5 := HB4.out.c1; simp only at e4 e5; clear hb4)
                        | fail)
                      refine bodyPost_ret (v := .tuple #[.slice none 0 0, .bool false]) (by simp [results, Try.results25, go_sem]) rfl ⟨HB4.out.bel, .inr ⟨rfl, HFL.out _ HB4.out⟩⟩
                    · obtain ⟨qb, rfl⟩ : ∃ qb : Nat, cb = qb := ⟨cb.toNat, by omega⟩
                      have HRZ : Hid (∀ W w2, InS m (cs.map ctC) w T (p1, ca) fb i f1 M1 W → HS w2 (w.heap.size + 1) (fun x => M1 x ∨ (x = (p1 + 1, (qb : Int)) ∧ ¬ ∃ r', M1 (r', (qb : Int)))) → FrH (w.heap.size + 1) (W.setCell ⟨w.heap.size, qb + 1, none⟩ (.int .i64 (f1 (ca + 1).toNat + cn))) w2 → ∃ f M, InS m (cs.map ctC) w T (p1, ca) fb (i + 1) f M w2) := by
                        intro W w2 hW hq hf
                        have e2 : ((cs.map ctC)[i]'HL1.out).b = qb + 1 := by rw [HCA.out.2.2.2.2]; omega
                        have e1 : ((((cs.map ctC)[i]'HL1.out).b : Nat) : Int) - 1 = (qb : Int) := by rw [e2]; omega
                        refine ⟨_, _, hW.raise hm30 HOC.out HNC.out HL1.out HSA.out HNM.out (by rw [e2]; omega) hpm (by rw [e1]; exact hq) (by rw [e2, HCA.out.2.2.1, HCA.out.2.2.2.1]; exact hf)⟩
                      have HSW : Hid (∀ W u, InS m (cs.map ctC) w T (p1, ca) fb i f1 M1 W → HS (W.setCell ⟨w.heap.size, qb + 1, none⟩ u) (w.heap.size + 1) M1) := fun W u hW => hW.hs.side (hW.hs.under (by omega)) _ _
                      have HADD : Hid (∀ W, HS W (w.heap.size + 1) M1 → Calls Try.prog 36 #[.pointer (some ⟨w.heap.size + 1, 0, none⟩), .int .i64 (p1 + 1), .int .i64 (qb : Int)] W fun e w' => (∃ v, e = .returned v) ∧ HS w' (w.heap.size + 1) (fun p => M1 p ∨ (p = (p1 + 1, (qb : Int)) ∧ ¬ ∃ r', M1 (r', (qb : Int)))) ∧ FrH (w.heap.size + 1) W w') := fun W hW => add_any (w.heap.size + 1) M1 (p1 + 1) qb W hW (by omega) (by omega)
                      have HRG : Hid (0 ≤ f1 (ca + 1).toNat ∧ f1 (ca + 1).toNat ≤ 1000000000) := by
                        obtain ⟨q1, q2, q3, q4, q5⟩ := HPO.out
                        have hW := HKW.out (.cells #[] 0)
                        have t1 := hW.li.top (ca + 1).toNat
                        exact ⟨hW.li.pos _, by omega⟩
                      obtain ⟨q1, q2, q3, q4, q5⟩ := HPO.out
                      have hpm2 : ¬ (p1 = (m : Int)) := hpm
                      have hwp : IntKind.i64.wrap (p1 + 1) = p1 + 1 := by rw [IntKind.wrap_i64]; omega
                      have hqb : ¬ ((qb : Int) = -1) := by omega
                      have hqb2 : qb ≤ 29 := by omega
                      have HPO2 := hide q5
                      clear HPO HCA hcb hpm q5
                      go_wp2_with (first
                        | (go_at_call 31; refine (HMT.out _ (HKW.out _)).mono ?_; rintro e w4 ⟨rfl, hb4⟩; rw [HDE.out]; have HB4 := hide ((HKW.out _).keep hb4); have e1 := keep_cell hb4 (b := wr.heap.size) (o := 0) (v := .int .i64 ca) (by rw [World.cell?_alloc_new]; rfl); have e2 := keep_cell hb4 (b := wr.heap.size) (o := 1) (v := .int .i64 cn) (by rw [World.cell?_alloc_new]; rfl); have e3 := keep_cell hb4 (b := wr.heap.size) (o := 2) (v := .int .i64 (qb : Int)) (by rw [World.cell?_alloc_new]; rfl); have e4 := HB4.out.c0; have e5 := HB4.out.c1; simp only at e4 e5; clear hb4)
                        | fail)
                      · rename_i hor
                        exfalso
                        rcases hor with hor | hor
                        · simp at hor
                        · exact hpm2 (by simpa using hor)
                      have hne1 : ¬ (fb = w.heap.size) := by have := HB4.out.hfb; omega
                      have hne2 : ¬ (wr.heap.size = w.heap.size) := by have := HB4.out.hfb; omega
                      have a0 := HB4.out.arr (qb + 1) (by omega)
                      have fz0 := HB4.out.frz (qb + 1)
                      have HOF := hide (fun W (hW : InS m (cs.map ctC) w T (p1, ca) fb i f1 M1 W) => of_any w.heap.size ca f1 W hW.arr (by omega) (by omega))
                      have HST := hide (fun W (hW : InS m (cs.map ctC) w T (p1, ca) fb i f1 M1 W) x => set_any w.heap.size qb x W _ hqb2 (hW.arr (qb + 1) (by omega)) (hW.frz (qb + 1)))
                      have HDR : Hid (InS m (cs.map ctC) w T (p1, ca) fb i f1 M1 w4.drew) := HB4.out.keep (Below.refl _ _).drew
                      obtain ⟨y, hy⟩ : ∃ y, y = f1 (ca + 1).toNat := ⟨_, rfl⟩
                      rw [← hy] at HOF HRG HRZ
                      obtain ⟨y1, y2⟩ := HRG.out
                      have hwy : IntKind.i64.wrap (y + cn) = y + cn := by rw [IntKind.wrap_i64]; omega
                      have HS3 : Hid (∀ x, (w4.setCell ⟨w.heap.size, qb + 1, none⟩ x).drew.cell? ⟨wr.heap.size, 0, none⟩ = some (.int .i64 ca) ∧ (w4.setCell ⟨w.heap.size, qb + 1, none⟩ x).drew.cell? ⟨wr.heap.size, 1, none⟩ = some (.int .i64 cn) ∧ (w4.setCell ⟨w.heap.size, qb + 1, none⟩ x).drew.cell? ⟨wr.heap.size, 2, none⟩ = some (.int .i64 (qb : Int))) := by
                        intro x
                        refine ⟨?_, ?_, ?_⟩
                        · show (w4.setCell ⟨w.heap.size, qb + 1, none⟩ x).cell? _ = _
                          rw [World.cell?_setCell_other _ _ _ _ (by simp <;> omega)]; exact e1
                        · show (w4.setCell ⟨w.heap.size, qb + 1, none⟩ x).cell? _ = _
                          rw [World.cell?_setCell_other _ _ _ _ (by simp <;> omega)]; exact e2
                        · show (w4.setCell ⟨w.heap.size, qb + 1, none⟩ x).cell? _ = _
                          rw [World.cell?_setCell_other _ _ _ _ (by simp <;> omega)]; exact e3
                      clear hy HRG a0 fz0 HMT HDE HKW
                      go_region_held3 (fun w' => w'.cell? ⟨wr.heap.size, 0, none⟩ = some (.int .i64 ca) ∧ w'.cell? ⟨wr.heap.size, 1, none⟩ = some (.int .i64 cn) ∧ w'.cell? ⟨wr.heap.size, 2, none⟩ = some (.int .i64 (qb : Int)))
                        (first | exact HS3.out _ | go_keep | fail)
                        (first
                          | (go_at_call 39; refine (HOF.out _ HDR.out).mono ?_; rintro e w5 ⟨rfl, rfl⟩)
                          | (go_at_call 30; refine (HST.out _ HDR.out _).mono ?_; rintro e w5 ⟨⟨v5, rfl⟩, rfl⟩)
                          | fail)
                      have H5 : Hid (HS (w4.setCell ⟨w.heap.size, qb + 1, none⟩ (.int .i64 (y + cn))).drew (w.heap.size + 1) M1) := HSW.out w4.drew _ HDR.out
                      go_wp2_with (first
                        | (go_at_call 36; refine (HADD.out _ H5.out).mono ?_; rintro e w6 ⟨⟨v6, rfl⟩, h6, f6⟩; have H6 := hide (And.intro h6 f6); clear h6 f6)
                        | fail)
                      go_roundw
                      case rel => exact ⟨i + 1, by omega, by go_num, HRZ.out w4.drew _ HDR.out H6.out.1 H6.out.2⟩
                      case measure => simp [intOf]; omega
              · have HSK : Hid (∀ W, InS m (cs.map ctC) w T (p1, p2) fb i f1 M1 W → InS m (cs.map ctC) w T (p1, p2) fb (i + 1) f1 M1 W) := fun W hW => hW.skip HL1.out (.inl (by rw [HCA.out.1]; show ca + 1 ≠ p2 + 1; omega))
                clear HCA HPO
                go_wp2_with fail
                go_roundw
                case rel => exact ⟨i + 1, by omega, by go_num, ⟨f1, M1, HSK.out _ (HKW.out _)⟩⟩
                case measure => simp [intOf]; omega
            · have ei : i = cs.length := by omega
              subst ei
              have HE : Hid (∃ f M T', OuS m (cs.map ctC) w f M T' wr ∧ 0 ≤ T' ∧ T < T' ∧ T' ≤ 1000) := by
                obtain ⟨q1, q2, q3, q4, q5⟩ := HPO.out
                have hI := HIN.out
                have hli : LI m (cs.map ctC) f1 M1 T p1 p2 (cs.map ctC).length := by rw [List.length_map]; exact hI.li
                exact ⟨f1, M1, p1 * 32 + p2 + 2, ⟨hli.done HLC.out, hI.hs, hI.arr, hI.frz, hI.bel⟩, by omega, by omega, by omega⟩
              have hlt' : ¬ ((cs.length : Int) < cs.length) := by omega
              clear HIN HPO
              go_wp2_with fail
              obtain ⟨f3, M3, T3, o3, t0, t1, t2⟩ := HE.out
              obtain ⟨t3, t4⟩ := HT.out
              go_roundg (1000 - T3).toNat
              case measure => omega
              case rel => exact ⟨f3, M3, T3, o3, t0, by omega⟩
        · have HLEN := hide (lenS_none (w.heap.size + 1) M wr HO.out.hs hM)
          have HFN := hide (HO.out.ln.fin (fun p hp => hM ⟨p, hp⟩))
          have hsl : ∀ W : World, (Instr.sliceAt 53 (.pointer (some ⟨w.heap.size, 0, none⟩)) (some (.int .i64 1)) (some (.int .i64 ((m : Int) + 1))) none).run Try.prog W = .ok (.slice (some ⟨w.heap.size, 1, none⟩) m 30) W := by
            intro W
            rw [run_sliceAt_array_lh W 53 ⟨w.heap.size, 0, none⟩ (by kernel_rfl) .i64 .i64 _ _ (by omega) (by omega) (by rw [show Try.prog.arrayLen 53 = 31 from by kernel_rfl]; omega)]
            rw [show ((m : Int) + 1).toNat = m + 1 from by omega]
            simp [slicedAt, go_sem]
          have hw1 : IntKind.i64.wrap ((m : Int) + 1) = (m : Int) + 1 := by rw [IntKind.wrap_i64]; omega
          have HKS : Hid (((List.range m).map (fun j => f (j + 1))).length = m) := by show _ = _; simp
          have HCL := hide (fun W (hW : Below wr.heap.size wr W) => clone_any w.heap.size 1 30 ((List.range m).map (fun j => f (j + 1))) W (by rw [HKS.out]; omega) (fun j hj => by
            have hj2 : j < m := by rw [HKS.out] at hj; exact hj
            have h := (HO.out.arr.keep hW) (j + 1) (by omega)
            rw [Nat.add_comm 1 j, h]
            simp) m HKS.out)
          clear hM
          go_wp2_with (first
            | (go_at_call 37; refine HLEN.out.mono ?_; rintro e w1 ⟨rfl, rfl⟩)
            | (go_at_call 40; refine (HCL.out _ (Below.refl _ _)).mono ?_; rintro e w2 ⟨v2, rfl, hv2, hb2⟩; have HV := hide (And.intro hv2 hb2); clear hv2 hb2)
            | fail)
          have HF : Hid (∀ j, j ≤ m → fnV ((List.range m).map (fun j => f (j + 1))) j = f j) := by
            intro j hj
            unfold fnV
            by_cases e : j = 0
            · subst e; rw [if_pos rfl]; exact HFN.out.1.zero.symm
            · rw [if_neg e]
              have h : j - 1 < m := by omega
              simp [List.getD, h, show j - 1 + 1 = j from by omega]
          refine bodyPost_ret (v := .tuple #[v2, .bool true]) (by simp [results, Try.results25, go_sem]) rfl ⟨bel_trans HO.out.bel HV.out.2, .inl ⟨v2, _, rfl, row_from HV.out.1 HO.out.bel.size, HKS.out, sol_congr HOC.out HF.out HFN.out.1, fun x hx j hj => by rw [HF.out j hj]; exact HFN.out.2 x hx j hj⟩⟩
end Go.Proofs.Yteedainidoldoaa
