
/- Whether pieces make up a word, in the program. -/
import Derived.Test.YtohgglhjcklbaaaPc
import Derived.Test.YtohgglhjcklbaaaTbJ
namespace Go.Proofs.Ytohgglhjcklbaaa
open Go.RowKit

/-- one letter of the word, or the letters of a rule that applies there -/
def PcOk (T : List PRule) (s : ByteArray) (p : PPiece) : Prop :=
  0 ≤ p.f ∧ p.f < s.size ∧ ((p.r = -1 ∧ p.t = p.f + 1) ∨ (0 ≤ p.r ∧ p.r < T.length ∧ App (T.getD p.r.toNat noR) s p.f ∧ p.t = p.f + (T.getD p.r.toNat noR).t.size))
instance (T : List PRule) (s : ByteArray) (p : PPiece) : Decidable (PcOk T s p) := inferInstanceAs (Decidable (_ ∧ _))
theorem pcOk_end {T : List PRule} {s : ByteArray} {p : PPiece} (h : PcOk T s p) (hv : ∀ i, i < T.length → ValidR (T.getD i noR)) : 0 ≤ p.f ∧ p.f < p.t ∧ p.t ≤ s.size := by
  obtain ⟨h1, h2, ⟨h3, h4⟩ | ⟨h3, h4, h5, h6⟩⟩ := h
  · omega
  · have h7 := (hv p.r.toNat (by omega)).1.1
    rw [wd_size] at h7
    have h8 := h5.2.1
    omega
theorem TableAt.nth {w : World} {g off n cp : Nat} {T : List PRule} (h : TableAt w (.slice (some ⟨g, off, none⟩) n cp) T) {k : Nat} (hk : k < T.length) : RuleAt w g (off + k * 3) (T.getD k noR) := by
  obtain ⟨a, c, h1, _, _, h4⟩ := h
  injection h1 with e1 _ _
  rcases h4 with rfl | ⟨g', off', h5, h6⟩
  · exact absurd hk (by simp)
  · rw [← e1] at h5
    injection h5 with e
    injection e with e2 e3 _
    subst e2 e3
    exact h6 k hk

set_option maxHeartbeats 4000000 in
theorem i_isPiece (w : World) (v : Value) (T : List PRule) (s : ByteArray) (r f t : Int) (b : Bool) (hx : TableAt w v T) (hv : Hid (ValidTb T)) (h1 : 1 ≤ s.size) (h2 : s.size ≤ 16) (hp : PieceFits ⟨r, f, t⟩) (hb : Hid (b = true ↔ PcOk T s ⟨r, f, t⟩)) :
    Calls Try.prog 70 #[v, .string s, .agg #[.int .i64 r, .int .i64 f, .int .i64 t]] w fun e w' => e = .returned (.bool b) ∧ Below w.heap.size w w' := by
  have HX := Lib.hid hx
  obtain ⟨a, cp, rfl, x1, x2, x3⟩ := hx
  obtain ⟨n, hn⟩ : ∃ n, T.length = n := ⟨_, rfl⟩
  rw [hn] at x1 x3 HX ⊢
  have hn16 : n ≤ 16 := by have := hv.out.1; omega
  have HN := Lib.hid hn
  clear hn
  obtain ⟨⟨_, _⟩, ⟨_, _⟩, _, _⟩ := hp
  have bno : ¬ PcOk T s ⟨r, f, t⟩ → Hid (b = false) := fun h => by
    show b = false
    cases b
    · rfl
    · exact absurd (hb.out.1 rfl) h
  have BNO := Lib.hid bno
  clear bno
  by_cases c1 : f < 0
  · have HB := BNO.out fun h => by have := h.1; simp only at this; omega
    have d1 : decide (f < 0) = true := decide_eq_true c1
    go_enter Try.func70, Try.ntmps70
    go_wp2
    go_ret
    exact ⟨by rw [HB.out]; rfl, (Below.refl _ _).alloc (Nat.le_refl _) _⟩
  · have d1 : decide (f < 0) = false := decide_eq_false c1
    by_cases c2 : (s.size : Int) ≤ f
    · have HB := BNO.out fun h => by have := h.2.1; simp only at this; omega
      have d2 : decide ((s.size : Int) ≤ f) = true := decide_eq_true c2
      go_enter Try.func70, Try.ntmps70
      go_wp2
      go_ret
      exact ⟨by rw [HB.out]; rfl, (Below.refl _ _).alloc (Nat.le_refl _) _⟩
    · have d2 : decide ((s.size : Int) ≤ f) = false := decide_eq_false c2
      have u1 : IntKind.i64.wrap (f + 1) = f + 1 := IntWalk.i64_in _ (by omega)
      by_cases c3 : r = -1
      · subst c3
        by_cases c4 : t = f + 1
        · have HB : Hid (b = true) := hb.out.2 ⟨by simp only; omega, by simp only; omega, .inl ⟨rfl, c4⟩⟩
          have d4 : (t == f + 1) = true := by simpa using c4
          clear c4
          go_enter Try.func70, Try.ntmps70
          go_wp2
          go_ret
          exact ⟨by rw [HB.out]; rfl, (Below.refl _ _).alloc (Nat.le_refl _) _⟩
        · have HB := BNO.out fun h => by
            rcases h.2.2 with ⟨_, h4⟩ | ⟨h3, _⟩
            · exact c4 h4
            · simp only at h3; omega
          have d4 : (t == f + 1) = false := by simpa using c4
          clear c4
          go_enter Try.func70, Try.ntmps70
          go_wp2
          go_ret
          exact ⟨by rw [HB.out]; rfl, (Below.refl _ _).alloc (Nat.le_refl _) _⟩
      · have d3 : (r == -1) = false := by simpa using c3
        by_cases c5 : r < 0
        · have HB := BNO.out fun h => by
            rcases h.2.2 with ⟨h3, _⟩ | ⟨h3, _⟩
            · exact c3 h3
            · simp only at h3; omega
          have d5 : decide (r < 0) = true := decide_eq_true c5
          clear c3
          go_enter Try.func70, Try.ntmps70
          go_wp2
          go_ret
          exact ⟨by rw [HB.out]; rfl, (Below.refl _ _).alloc (Nat.le_refl _) _⟩
        · have d5 : decide (r < 0) = false := decide_eq_false c5
          by_cases c6 : (n : Int) ≤ r
          · have HB := BNO.out fun h => by
              rcases h.2.2 with ⟨h3, _⟩ | ⟨_, h3, _⟩
              · exact c3 h3
              · have := HN.out; simp only at h3; omega
            have d6 : decide ((n : Int) ≤ r) = true := decide_eq_true c6
            clear c3
            go_enter Try.func70, Try.ntmps70
            go_wp2
            go_ret
            exact ⟨by rw [HB.out]; rfl, (Below.refl _ _).alloc (Nat.le_refl _) _⟩
          · have d6 : decide ((n : Int) ≤ r) = false := decide_eq_false c6
            obtain ⟨k, rfl⟩ : ∃ k : Nat, r = k := ⟨r.toNat, by omega⟩
            have hlt : k < n := by omega
            rcases x3 with rfl | ⟨g, off, rfl, x3⟩
            · exact absurd HN.out (by simp; omega)
            obtain ⟨q, hq⟩ : ∃ q, T.getD k noR = q := ⟨_, rfl⟩
            have hra := x3 k hlt
            have hvr := hv.out.2.1 k (by rw [HN.out]; exact hlt)
            rw [hq] at hra hvr
            have HQ := Lib.hid hq
            clear hq x3
            obtain ⟨rt, zs, rp⟩ := q
            have HVR := Lib.hid hvr
            have hrt : rt.size ≤ 6 := by have := hvr.1.2.1; rw [wd_size] at this; exact this
            obtain ⟨c0, ⟨u, c1', hu⟩, c2'⟩ := hra
            have HU : Hid (IntsAt w u zs) := hu
            obtain ⟨a2, cp2, rfl, _⟩ := hu
            simp only at c0 c1' c2'
            have hB1 : Below w.heap.size w (w.alloc (.cells #[.int .i64 (k : Int), .int .i64 f, .int .i64 t] 59)) := (Below.refl _ _).alloc (Nat.le_refl _) _
            have e0 := (hB1.cell (World.block_lt_of_cell? w _ c0)).trans c0
            have e1 := (hB1.cell (World.block_lt_of_cell? w _ c1')).trans c1'
            have e2 := (hB1.cell (World.block_lt_of_cell? w _ c2')).trans c2'
            have hB2 : Below w.heap.size w ((w.alloc (.cells #[.int .i64 (k : Int), .int .i64 f, .int .i64 t] 59)).alloc (.cells #[.string rt, .slice a2 zs.length cp2, .int .i64 rp] 46)) := hB1.alloc (by simp) _
            have p1 : ((w.alloc (.cells #[.int .i64 (k : Int), .int .i64 f, .int .i64 t] 59)).alloc (.cells #[.string rt, .slice a2 zs.length cp2, .int .i64 rp] 46)).cell? ⟨w.heap.size, 1, none⟩ = some (.int .i64 f) := by
              rw [World.cell?_of_block (Below.heap_alloc _ _ _ (by simp)), cell_of_row _ w.heap.size 1 _ _ _ (heap_alloc_new w _)]; rfl
            have p2 : ((w.alloc (.cells #[.int .i64 (k : Int), .int .i64 f, .int .i64 t] 59)).alloc (.cells #[.string rt, .slice a2 zs.length cp2, .int .i64 rp] 46)).cell? ⟨w.heap.size, 2, none⟩ = some (.int .i64 t) := by
              rw [World.cell?_of_block (Below.heap_alloc _ _ _ (by simp)), cell_of_row _ w.heap.size 2 _ _ _ (heap_alloc_new w _)]; rfl
            have p3 : ((w.alloc (.cells #[.int .i64 (k : Int), .int .i64 f, .int .i64 t] 59)).alloc (.cells #[.string rt, .slice a2 zs.length cp2, .int .i64 rp] 46)).cell? ⟨w.heap.size + 1, 0, none⟩ = some (.string rt) := by
              have h := heap_alloc_new (w.alloc (.cells #[.int .i64 (k : Int), .int .i64 f, .int .i64 t] 59)) (.cells #[.string rt, .slice a2 zs.length cp2, .int .i64 rp] 46)
              rw [World.size_alloc] at h
              rw [cell_of_row _ _ 0 _ _ _ h]; rfl
            have d7 : ((k : Int) == -1) = false := by simp
            have u2 : IntKind.i64.wrap (f + (rt.size : Int)) = f + (rt.size : Int) := IntWalk.i64_in _ (by omega)
            go_enter Try.func70, Try.ntmps70
            go_wp2_with fail
            generalize ((w.alloc (.cells #[.int .i64 (k : Int), .int .i64 f, .int .i64 t] 59)).alloc (.cells #[.string rt, .slice a2 zs.length cp2, .int .i64 rp] 46)) = W2 at hB2 p1 p2 p3 ⊢
            clear c0 c1' c2' e0 e1 e2 hB1
            have hU2 := HU.out.below hB2
            by_cases hA : App ⟨rt, zs, rp⟩ s f
            · have HA := Lib.hid (decide_eq_true hA)
              have hT : Hid (T.getD (k : Int).toNat noR = ⟨rt, zs, rp⟩) := by show _ = _; rw [Int.toNat_natCast]; exact HQ.out
              have HBI : Hid (b = true ↔ t = f + rt.size) := by
                refine hb.out.trans ⟨fun h => ?_, fun h => ⟨by simp only; omega, by simp only; omega, .inr ⟨by simp only; omega, by have := HN.out; simp only; omega, ?_, ?_⟩⟩⟩
                · rcases h.2.2 with ⟨h3, _⟩ | ⟨_, _, _, h6⟩
                  · simp only at h3; omega
                  · simp only at h6; rw [hT.out] at h6; exact h6
                · simp only; rw [hT.out]; exact hA
                · simp only; rw [hT.out]; exact h
              clear hA
              refine (i_ruleApplies_v W2 _ rt zs rp s f true hU2 HVR h1 h2 (by omega) (by omega) HA).mono ?_
              rintro e w3 ⟨rfl, hb3⟩
              have q1 := (hb3.cell (World.block_lt_of_cell? W2 _ p1)).trans p1
              have q2 := (hb3.cell (World.block_lt_of_cell? W2 _ p2)).trans p2
              have q3 := (hb3.cell (World.block_lt_of_cell? W2 _ p3)).trans p3
              clear p1 p2 p3
              by_cases c7 : t = f + rt.size
              · have HB : Hid (b = true) := HBI.out.2 c7
                have d8 : (t == f + (rt.size : Int)) = true := by simpa using c7
                clear c7
                go_wp2
                go_ret
                exact ⟨by rw [HB.out]; rfl, below_next hB2 hb3⟩
              · have HB : Hid (b = false) := by
                  show b = false
                  cases b
                  · rfl
                  · exact absurd (HBI.out.1 rfl) c7
                have d8 : (t == f + (rt.size : Int)) = false := by simpa using c7
                clear c7
                go_wp2
                go_ret
                exact ⟨by rw [HB.out]; rfl, below_next hB2 hb3⟩
            · have HA := Lib.hid (decide_eq_false hA)
              have hT : Hid (T.getD (k : Int).toNat noR = ⟨rt, zs, rp⟩) := by show _ = _; rw [Int.toNat_natCast]; exact HQ.out
              have HB := BNO.out fun h => by
                rcases h.2.2 with ⟨h3, _⟩ | ⟨_, _, h5, _⟩
                · simp only at h3; omega
                · simp only at h5; rw [hT.out] at h5; exact hA h5
              clear hA
              refine (i_ruleApplies_v W2 _ rt zs rp s f false hU2 HVR h1 h2 (by omega) (by omega) HA).mono ?_
              rintro e w3 ⟨rfl, hb3⟩
              go_wp2
              go_ret
              exact ⟨by rw [HB.out]; rfl, below_next hB2 hb3⟩

/-- where the first k pieces end -/
def endAt (P : List PPiece) : Nat → Int
  | 0 => 0
  | k + 1 => (P.getD k noP).t
/-- the first k pieces are pieces of the word, one behind the other -/
def PvUp (T : List PRule) (s : ByteArray) (P : List PPiece) (k : Nat) : Prop := ∀ i, i < k → (P.getD i noP).f = endAt P i ∧ PcOk T s (P.getD i noP)
theorem PvUp.zero (T : List PRule) (s : ByteArray) (P : List PPiece) : PvUp T s P 0 := fun i h => absurd h (by omega)
theorem PvUp.succ {T : List PRule} {s : ByteArray} {P : List PPiece} {k : Nat} (h : PvUp T s P k) (e : (P.getD k noP).f = endAt P k ∧ PcOk T s (P.getD k noP)) : PvUp T s P (k + 1) := fun i hi => by
  by_cases hik : i = k
  · subst hik; exact e
  · exact h i (by omega)
def ValidPv (T : List PRule) (s : ByteArray) (P : List PPiece) : Prop := PvUp T s P P.length ∧ endAt P P.length = s.size
theorem endAt_bd {T : List PRule} {s : ByteArray} {P : List PPiece} {k : Nat} (h : PvUp T s P k) (hv : ∀ i, i < T.length → ValidR (T.getD i noR)) : 0 ≤ endAt P k ∧ endAt P k ≤ s.size := by
  cases k with
  | zero => simp [endAt]
  | succ k =>
    have := pcOk_end (h k (by omega)).2 hv
    simp only [endAt]; omega

set_option maxHeartbeats 4000000 in
theorem i_ValidPieces (w : World) (v u : Value) (T : List PRule) (s : ByteArray) (P : List PPiece) (b : Bool) (hx : TableAt w v T) (hf : TableFits T) (hs : s.size ≤ 9223372036854775807) (hy : PiecesAt w u P) (hp : PiecesFit P) (hb : Hid (b = true ↔ (ValidTb T ∧ WordB 16 s.data.toList) ∧ ValidPv T s P)) :
    Calls Try.prog 39 #[v, .string s, u] w fun e w' => e = .returned (.bool b) ∧ Below w.heap.size w w' := by
  have HX := Lib.hid hx
  have HY := Lib.hid hy
  have HF := Lib.hid hf
  have HP := Lib.hid hp
  obtain ⟨_, _, rfl, _⟩ := hx
  obtain ⟨a, cp, rfl, x1, x2, x3⟩ := hy
  obtain ⟨n, hn⟩ : ∃ n, P.length = n := ⟨_, rfl⟩
  rw [hn] at x1 x3 HY ⊢
  have HN := Lib.hid hn
  clear hn hp
  have BNO : Hid (¬ ((ValidTb T ∧ WordB 16 s.data.toList) ∧ ValidPv T s P) → Hid (b = false)) := fun h => by
    show b = false
    cases b
    · rfl
    · exact absurd (hb.out.1 rfl) h
  by_cases hT : ValidTb T
  · have HT := Lib.hid hT
    have HIT : Hid (∀ wx u, TableAt wx u T → Calls Try.prog 21 #[u] wx fun e w' => e = .returned (.bool true) ∧ Below wx.heap.size wx w') := fun wx u h => i_ValidTable wx u T true h HF.out ⟨fun _ => HT.out, fun _ => rfl⟩
    clear hT
    by_cases hW : WordB 16 s.data.toList
    · have HW := Lib.hid hW
      have hsl : 1 ≤ s.size ∧ s.size ≤ 16 := by have := hW.1; have := hW.2.1; have := wd_size s; omega
      have HIW : Hid (∀ wx, Calls Try.prog 64 #[.string s] wx fun e w' => e = .returned (.bool true) ∧ wx = w') := fun wx => by
        have := i_isWord s wx hs
        rw [decide_eq_true HW.out] at this
        exact this
      clear hW
      go_enter Try.func39, Try.ntmps39
      go_wp2_with fail
      refine (HIT.out _ _ HX.out).mono ?_
      rintro e w1 ⟨rfl, hb1⟩
      go_wp2_with fail
      refine (HIW.out _).mono ?_
      rintro e w' ⟨rfl, rfl⟩
      go_wp2
      go_loopw [7, 20] (fun q i wr => ∃ (k : Nat) (m : Int), k ≤ n ∧ i = .int .i64 k ∧ q = .int .i64 m ∧ m = endAt P k ∧ PvUp T s P k ∧ Below w.heap.size w wr) (fun _ i _ => n - (intOf i).toNat)
      case atStart => exact ⟨0, 0, Nat.zero_le _, rfl, rfl, rfl, PvUp.zero _ _ _, hb1⟩
      case round =>
        clear hb1
        obtain ⟨k, m, hk, rfl, rfl, hm, hok, hb1⟩ := hrel
        have hsz := hb1.size
        have hmb := endAt_bd hok HT.out.2.1
        rw [← hm] at hmb
        have HM := Lib.hid hm
        clear hm
        by_cases hlt : k < n
        · rcases x3 with rfl | ⟨g, off, rfl, x3⟩
          · exact absurd HN.out (by simp; omega)
          obtain ⟨q, hq⟩ : ∃ q, P.getD k noP = q := ⟨_, rfl⟩
          have hra := x3 k hlt
          have hpf := HP.out.at k
          rw [hq] at hra hpf
          have HQ := Lib.hid hq
          clear hq x3
          obtain ⟨r, f, t⟩ := q
          obtain ⟨c0, c1, c2⟩ := hra
          simp only at c0 c1 c2
          have c0 := (hb1.cell (World.block_lt_of_cell? w _ c0)).trans c0
          have c1 := (hb1.cell (World.block_lt_of_cell? w _ c1)).trans c1
          have c2 := (hb1.cell (World.block_lt_of_cell? w _ c2)).trans c2
          by_cases e1 : f = m
          · subst e1
            have hBW := hb1.alloc hsz (.cells #[.int .i64 r, .int .i64 f, .int .i64 t] 59)
            have d2 : (wr.alloc (.cells #[.int .i64 r, .int .i64 f, .int .i64 t] 59)).cell? ⟨wr.heap.size, 2, none⟩ = some (.int .i64 t) := by rw [cell_of_row _ wr.heap.size 2 _ _ _ (heap_alloc_new wr _)]; rfl
            go_wp2_with fail
            generalize wr.alloc (.cells #[.int .i64 r, .int .i64 f, .int .i64 t] 59) = W1 at hBW d2 ⊢
            clear c0 c1 c2
            obtain ⟨b2, hb2⟩ : ∃ b2 : Bool, b2 = true ↔ PcOk T s ⟨r, f, t⟩ := by
              by_cases h : PcOk T s ⟨r, f, t⟩
              · exact ⟨true, by simp [h]⟩
              · exact ⟨false, by simp [h]⟩
            have HB2 := Lib.hid hb2
            clear hb2
            refine (i_isPiece W1 _ T s r f t b2 (HX.out.below hBW) HT hsl.1 hsl.2 hpf HB2).mono ?_
            rintro e w3 ⟨rfl, hb3⟩
            have hB3 := hBW.trans (hb3.mono hBW.size)
            have d3 := (hb3.cell (World.block_lt_of_cell? W1 _ d2)).trans d2
            clear d2
            cases b2 with
            | true =>
              have hok' := hok.succ (by rw [HQ.out]; exact ⟨HM.out, HB2.out.1 rfl⟩)
              have HE : Hid (t = endAt P (k + 1)) := by show t = (P.getD k noP).t; rw [HQ.out]
              clear hok
              go_wp2
              go_roundw
              case rel => exact ⟨k + 1, t, by omega, by go_num, rfl, HE.out, hok', hB3⟩
              case measure => simp [intOf]; omega
            | false =>
              have HB := BNO.out fun h => by
                have := (h.2.1 k (by rw [HN.out]; exact hlt)).2
                rw [HQ.out] at this
                exact absurd (HB2.out.2 this) (by simp)
              clear hok
              go_wp2
              go_ret
              exact ⟨by rw [HB.out]; rfl, hB3⟩
          · have HB := BNO.out fun h => by
              have := (h.2.1 k (by rw [HN.out]; exact hlt)).1
              rw [HQ.out, ← HM.out] at this
              exact e1 this
            have d1 : (f != m) = true := by simpa using e1
            clear hok e1
            go_wp2
            go_ret
            exact ⟨by rw [HB.out]; rfl, hb1.alloc hsz _⟩
        · obtain rfl : k = n := by omega
          by_cases e1 : m = s.size
          · have HB : Hid (b = true) := hb.out.2 ⟨⟨HT.out, HW.out⟩, by rw [ValidPv, HN.out]; exact ⟨hok, by rw [← HM.out]; exact e1⟩⟩
            have d1 : (m == (s.size : Int)) = true := by simpa using e1
            clear hok e1
            go_wp2
            go_ret
            exact ⟨by rw [HB.out]; rfl, hb1⟩
          · have HB := BNO.out fun h => by
              have := h.2.2
              rw [HN.out, ← HM.out] at this
              exact e1 this
            have d1 : (m == (s.size : Int)) = false := by simpa using e1
            clear hok e1
            go_wp2
            go_ret
            exact ⟨by rw [HB.out]; rfl, hb1⟩
    · have HB := BNO.out fun h => hW h.1.2
      have HIW : Hid (∀ wx, Calls Try.prog 64 #[.string s] wx fun e w' => e = .returned (.bool false) ∧ wx = w') := fun wx => by
        have := i_isWord s wx hs
        rw [decide_eq_false hW] at this
        exact this
      clear hW
      go_enter Try.func39, Try.ntmps39
      go_wp2_with fail
      refine (HIT.out _ _ HX.out).mono ?_
      rintro e w1 ⟨rfl, hb1⟩
      go_wp2_with fail
      refine (HIW.out _).mono ?_
      rintro e w' ⟨rfl, rfl⟩
      go_wp2
      go_ret
      exact ⟨by rw [HB.out]; rfl, hb1⟩
  · have HB := BNO.out fun h => hT h.1.1
    have HIT : Hid (∀ wx u, TableAt wx u T → Calls Try.prog 21 #[u] wx fun e w' => e = .returned (.bool false) ∧ Below wx.heap.size wx w') := fun wx u h => i_ValidTable wx u T false h HF.out (bool_iff_false hT)
    clear hT
    go_enter Try.func39, Try.ntmps39
    go_wp2_with fail
    refine (HIT.out _ _ HX.out).mono ?_
    rintro e w1 ⟨rfl, hb1⟩
    go_wp2
    go_ret
    exact ⟨by rw [HB.out]; rfl, hb1⟩
end Go.Proofs.Ytohgglhjcklbaaa
