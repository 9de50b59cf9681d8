
/- A line to a printer: what it is in memory, and whether it is set up. -/
import Derived.Test.YtlkhpfknmdimbaaFa
import Derived.Test.YtlkhpfknmdimbaaRange
import Derived.IntWalk
namespace Go.Proofs.Ytlkhpfknmdimbaa
open Go.RowKit

structure FL where
  size : Int
  high : Int
  low : Int
  delay : Int
  every : Int
  left : Int
  held : Int
  printed : Int
  lost : Int
  stopped : Bool
  asked : Bool
  clock : Int
def flC (l : FL) (s : Value) : Array Value := #[.int .i64 l.size, .int .i64 l.high, .int .i64 l.low, .int .i64 l.delay, .int .i64 l.every, .int .i64 l.left, .int .i64 l.held, .int .i64 l.printed, .int .i64 l.lost, .bool l.stopped, .bool l.asked, s, .int .i64 l.clock]
def flV (l : FL) (s : Value) : Value := .agg (flC l s)
def In (n lo hi : Int) : Prop := lo ≤ n ∧ n ≤ hi
instance (n lo hi : Int) : Decidable (In n lo hi) := inferInstanceAs (Decidable (_ ∧ _))
def SetUp (l : FL) : Prop := In l.size 1 40 ∧ In l.high 1 l.size ∧ In l.low 0 (l.high - 1) ∧ In l.delay 1 8 ∧ In l.every 1 4
def Counted (l : FL) : Prop := In l.left 0 200 ∧ In l.printed 0 200 ∧ In l.lost 0 200 ∧ In l.held 0 l.size ∧ In l.clock 0 4000
instance (l : FL) : Decidable (SetUp l) := inferInstanceAs (Decidable (_ ∧ _))
instance (l : FL) : Decidable (Counted l) := inferInstanceAs (Decidable (_ ∧ _))
theorem i_isWithin (n lo hi : Int) (b : Bool) (w : World) (hb : Hid (decide (In n lo hi) = b)) :
    Calls Try.prog 57 #[.int .i64 n, .int .i64 lo, .int .i64 hi] w fun e w' => e = .returned (.bool b) ∧ w = w' := by
  by_cases h : In n lo hi
  · obtain rfl : b = true := by rw [← hb.out]; exact decide_eq_true h
    obtain ⟨h0, h1⟩ := h
    have d1 : decide (lo ≤ n) = true := decide_eq_true h0
    have d2 : decide (n ≤ hi) = true := decide_eq_true h1
    go_enter Try.func57, Try.ntmps57
    go_wp2
    go_ret
    exact ⟨rfl, rfl⟩
  · obtain rfl : b = false := by rw [← hb.out]; exact decide_eq_false h
    by_cases h0 : lo ≤ n
    · have d1 : decide (lo ≤ n) = true := decide_eq_true h0
      have d2 : decide (n ≤ hi) = false := decide_eq_false (fun h1 => h ⟨h0, h1⟩)
      go_enter Try.func57, Try.ntmps57
      go_wp2
      go_ret
      exact ⟨rfl, rfl⟩
    · have d1 : decide (lo ≤ n) = false := decide_eq_false h0
      go_enter Try.func57, Try.ntmps57
      go_wp2
      go_ret
      exact ⟨rfl, rfl⟩
set_option maxHeartbeats 1000000 in
theorem i_isSetUp (l : FL) (s : Value) (b : Bool) (w : World) (hs : ∃ a n c, s = .slice a n c) (hb : Hid (decide (SetUp l) = b)) :
    Calls Try.prog 41 #[flV l s] w fun e w' => e = .returned (.bool b) ∧ Below w.heap.size w w' := by
  obtain ⟨a, n, c, rfl⟩ := hs
  obtain ⟨v0, v1, v2, v3, v4, v5, v6, v7, v8, v9, v10, v12⟩ := l
  simp only [flV, flC, SetUp] at hb ⊢
  have hB : Below w.heap.size w (w.alloc (.cells #[.int .i64 v0, .int .i64 v1, .int .i64 v2, .int .i64 v3, .int .i64 v4, .int .i64 v5, .int .i64 v6, .int .i64 v7, .int .i64 v8, .bool v9, .bool v10, .slice a n c, .int .i64 v12] 25)) := (Below.refl _ _).alloc (Nat.le_refl _) _
  go_enter Try.func41, Try.ntmps41
  by_cases h0 : In v0 1 40
  · have H0 : Hid (decide (In v0 1 40) = true) := decide_eq_true h0
    obtain ⟨h0a, h0b⟩ := id h0
    go_wp2_with fail
    refine (i_isWithin _ _ _ true _ H0).mono ?_
    rintro e w' ⟨rfl, rfl⟩
    by_cases h1 : In v1 1 v0
    · have H1 : Hid (decide (In v1 1 v0) = true) := decide_eq_true h1
      obtain ⟨h1a, h1b⟩ := id h1
      have u1 : IntKind.i64.wrap (v1 - 1) = v1 - 1 := IntWalk.i64_in _ (by omega)
      go_wp2_with fail
      refine (i_isWithin _ _ _ true _ H1).mono ?_
      rintro e w' ⟨rfl, rfl⟩
      by_cases h2 : In v2 0 (v1 - 1)
      · have H2 : Hid (decide (In v2 0 (v1 - 1)) = true) := decide_eq_true h2
        obtain ⟨h2a, h2b⟩ := id h2
        go_wp2_with fail
        refine (i_isWithin _ _ _ true _ H2).mono ?_
        rintro e w' ⟨rfl, rfl⟩
        by_cases h3 : In v3 1 8
        · have H3 : Hid (decide (In v3 1 8) = true) := decide_eq_true h3
          obtain ⟨h3a, h3b⟩ := id h3
          go_wp2_with fail
          refine (i_isWithin _ _ _ true _ H3).mono ?_
          rintro e w' ⟨rfl, rfl⟩
          by_cases h4 : In v4 1 4
          · have H4 : Hid (decide (In v4 1 4) = true) := decide_eq_true h4
            obtain ⟨h4a, h4b⟩ := id h4
            go_wp2_with fail
            refine (i_isWithin _ _ _ true _ H4).mono ?_
            rintro e w' ⟨rfl, rfl⟩
            have HT : Hid (b = true) := by show _ = _; rw [← hb.out]; exact decide_eq_true ⟨h0, h1, h2, h3, h4⟩
            go_wp2
            go_ret
            exact ⟨by rw [HT.out]; rfl, hB⟩
          · have H4 : Hid (decide (In v4 1 4) = false) := decide_eq_false h4
            have HF : Hid (b = false) := by show _ = _; rw [← hb.out]; exact decide_eq_false (fun h => h4 h.2.2.2.2)
            go_wp2_with fail
            refine (i_isWithin _ _ _ false _ H4).mono ?_
            rintro e w' ⟨rfl, rfl⟩
            go_wp2
            go_ret
            exact ⟨by rw [HF.out]; rfl, hB⟩
        · have H3 : Hid (decide (In v3 1 8) = false) := decide_eq_false h3
          have HF : Hid (b = false) := by show _ = _; rw [← hb.out]; exact decide_eq_false (fun h => h3 h.2.2.2.1)
          go_wp2_with fail
          refine (i_isWithin _ _ _ false _ H3).mono ?_
          rintro e w' ⟨rfl, rfl⟩
          go_wp2
          go_ret
          exact ⟨by rw [HF.out]; rfl, hB⟩
      · have H2 : Hid (decide (In v2 0 (v1 - 1)) = false) := decide_eq_false h2
        have HF : Hid (b = false) := by show _ = _; rw [← hb.out]; exact decide_eq_false (fun h => h2 h.2.2.1)
        go_wp2_with fail
        refine (i_isWithin _ _ _ false _ H2).mono ?_
        rintro e w' ⟨rfl, rfl⟩
        go_wp2
        go_ret
        exact ⟨by rw [HF.out]; rfl, hB⟩
    · have H1 : Hid (decide (In v1 1 v0) = false) := decide_eq_false h1
      have HF : Hid (b = false) := by show _ = _; rw [← hb.out]; exact decide_eq_false (fun h => h1 h.2.1)
      go_wp2_with fail
      refine (i_isWithin _ _ _ false _ H1).mono ?_
      rintro e w' ⟨rfl, rfl⟩
      go_wp2
      go_ret
      exact ⟨by rw [HF.out]; rfl, hB⟩
  · have H0 : Hid (decide (In v0 1 40) = false) := decide_eq_false h0
    have HF : Hid (b = false) := by show _ = _; rw [← hb.out]; exact decide_eq_false (fun h => h0 h.1)
    go_wp2_with fail
    refine (i_isWithin _ _ _ false _ H0).mono ?_
    rintro e w' ⟨rfl, rfl⟩
    go_wp2
    go_ret
    exact ⟨by rw [HF.out]; rfl, hB⟩
set_option maxHeartbeats 1000000 in
theorem i_isCounted (l : FL) (s : Value) (b : Bool) (w : World) (hs : ∃ a n c, s = .slice a n c) (hb : Hid (decide (Counted l) = b)) :
    Calls Try.prog 42 #[flV l s] w fun e w' => e = .returned (.bool b) ∧ Below w.heap.size w w' := by
  obtain ⟨a, n, c, rfl⟩ := hs
  obtain ⟨v0, v1, v2, v3, v4, v5, v6, v7, v8, v9, v10, v12⟩ := l
  simp only [flV, flC, Counted] at hb ⊢
  have hB : Below w.heap.size w (w.alloc (.cells #[.int .i64 v0, .int .i64 v1, .int .i64 v2, .int .i64 v3, .int .i64 v4, .int .i64 v5, .int .i64 v6, .int .i64 v7, .int .i64 v8, .bool v9, .bool v10, .slice a n c, .int .i64 v12] 25)) := (Below.refl _ _).alloc (Nat.le_refl _) _
  go_enter Try.func42, Try.ntmps42
  by_cases h0 : In v5 0 200
  · have H0 : Hid (decide (In v5 0 200) = true) := decide_eq_true h0
    obtain ⟨h0a, h0b⟩ := id h0
    go_wp2_with fail
    refine (i_isWithin _ _ _ true _ H0).mono ?_
    rintro e w' ⟨rfl, rfl⟩
    by_cases h1 : In v7 0 200
    · have H1 : Hid (decide (In v7 0 200) = true) := decide_eq_true h1
      obtain ⟨h1a, h1b⟩ := id h1
      go_wp2_with fail
      refine (i_isWithin _ _ _ true _ H1).mono ?_
      rintro e w' ⟨rfl, rfl⟩
      by_cases h2 : In v8 0 200
      · have H2 : Hid (decide (In v8 0 200) = true) := decide_eq_true h2
        obtain ⟨h2a, h2b⟩ := id h2
        go_wp2_with fail
        refine (i_isWithin _ _ _ true _ H2).mono ?_
        rintro e w' ⟨rfl, rfl⟩
        by_cases h3 : In v6 0 v0
        · have H3 : Hid (decide (In v6 0 v0) = true) := decide_eq_true h3
          obtain ⟨h3a, h3b⟩ := id h3
          go_wp2_with fail
          refine (i_isWithin _ _ _ true _ H3).mono ?_
          rintro e w' ⟨rfl, rfl⟩
          by_cases h4 : In v12 0 4000
          · have H4 : Hid (decide (In v12 0 4000) = true) := decide_eq_true h4
            obtain ⟨h4a, h4b⟩ := id h4
            go_wp2_with fail
            refine (i_isWithin _ _ _ true _ H4).mono ?_
            rintro e w' ⟨rfl, rfl⟩
            have HT : Hid (b = true) := by show _ = _; rw [← hb.out]; exact decide_eq_true ⟨h0, h1, h2, h3, h4⟩
            go_wp2
            go_ret
            exact ⟨by rw [HT.out]; rfl, hB⟩
          · have H4 : Hid (decide (In v12 0 4000) = false) := decide_eq_false h4
            have HF : Hid (b = false) := by show _ = _; rw [← hb.out]; exact decide_eq_false (fun h => h4 h.2.2.2.2)
            go_wp2_with fail
            refine (i_isWithin _ _ _ false _ H4).mono ?_
            rintro e w' ⟨rfl, rfl⟩
            go_wp2
            go_ret
            exact ⟨by rw [HF.out]; rfl, hB⟩
        · have H3 : Hid (decide (In v6 0 v0) = false) := decide_eq_false h3
          have HF : Hid (b = false) := by show _ = _; rw [← hb.out]; exact decide_eq_false (fun h => h3 h.2.2.2.1)
          go_wp2_with fail
          refine (i_isWithin _ _ _ false _ H3).mono ?_
          rintro e w' ⟨rfl, rfl⟩
          go_wp2
          go_ret
          exact ⟨by rw [HF.out]; rfl, hB⟩
      · have H2 : Hid (decide (In v8 0 200) = false) := decide_eq_false h2
        have HF : Hid (b = false) := by show _ = _; rw [← hb.out]; exact decide_eq_false (fun h => h2 h.2.2.1)
        go_wp2_with fail
        refine (i_isWithin _ _ _ false _ H2).mono ?_
        rintro e w' ⟨rfl, rfl⟩
        go_wp2
        go_ret
        exact ⟨by rw [HF.out]; rfl, hB⟩
    · have H1 : Hid (decide (In v7 0 200) = false) := decide_eq_false h1
      have HF : Hid (b = false) := by show _ = _; rw [← hb.out]; exact decide_eq_false (fun h => h1 h.2.1)
      go_wp2_with fail
      refine (i_isWithin _ _ _ false _ H1).mono ?_
      rintro e w' ⟨rfl, rfl⟩
      go_wp2
      go_ret
      exact ⟨by rw [HF.out]; rfl, hB⟩
  · have H0 : Hid (decide (In v5 0 200) = false) := decide_eq_false h0
    have HF : Hid (b = false) := by show _ = _; rw [← hb.out]; exact decide_eq_false (fun h => h0 h.1)
    go_wp2_with fail
    refine (i_isWithin _ _ _ false _ H0).mono ?_
    rintro e w' ⟨rfl, rfl⟩
    go_wp2
    go_ret
    exact ⟨by rw [HF.out]; rfl, hB⟩
/-- the time ahead of which the signal i must be behind -/
def before (P : List PSig) (clock : Int) (i : Nat) : Int := if i = 0 then clock else (P.getD (i - 1) noS).at_
/-- the first k signals are under way -/
def UWto (P : List PSig) (clock lim : Int) (k : Nat) : Prop := ∀ i, i < k → before P clock i < (P.getD i noS).at_ ∧ (P.getD i noS).at_ ≤ lim
def UnderWay (P : List PSig) (clock lim : Int) : Prop := UWto P clock lim P.length
theorem UWto.zero (P : List PSig) (c m : Int) : UWto P c m 0 := fun i h => absurd h (by omega)
theorem UWto.succ {P : List PSig} {c m : Int} {k : Nat} (h : UWto P c m k) (e : before P c k < (P.getD k noS).at_ ∧ (P.getD k noS).at_ ≤ m) : UWto P c m (k + 1) := fun i hi => by
  by_cases hik : i = k
  · subst hik; exact e
  · exact h i (by omega)
theorem before_succ (P : List PSig) (c : Int) (k : Nat) : before P c (k + 1) = (P.getD k noS).at_ := by simp [before]
theorem UWto.past {P : List PSig} {c m : Int} {k : Nat} (h : UWto P c m k) : ∀ i, i < k → c < (P.getD i noS).at_ := by
  intro i
  induction i with
  | zero => intro hi; have := (h 0 hi).1; simpa [before] using this
  | succ i ih => intro hi; have := (h (i + 1) hi).1; rw [before_succ] at this; have := ih (by omega); omega
set_option maxHeartbeats 1000000 in
theorem i_areUnderWay (w : World) (v : Value) (P : List PSig) (c d : Int) (b : Bool) (hx : SigsAt w v P) (hc : -1000000 ≤ c ∧ c ≤ 1000000) (hd : -1000000 ≤ d ∧ d ≤ 1000000) (hb : Hid (b = true ↔ UnderWay P c (c + d))) :
    Calls Try.prog 43 #[v, .int .i64 c, .int .i64 d] w fun e w' => e = .returned (.bool b) ∧ Below w.heap.size w w' := by
  have HX := keptF hx
  obtain ⟨a, cp, rfl, x1, x2, _⟩ := hx
  obtain ⟨n, hn⟩ : ∃ n, P.length = n := ⟨_, rfl⟩
  rw [hn] at x1 HX ⊢
  have HN := Lib.hid hn
  have u1 : IntKind.i64.wrap (c + d) = c + d := IntWalk.i64_in _ (by omega)
  clear hn
  go_enter Try.func43, Try.ntmps43
  go_wp2
  go_loopw [7, 13] (fun q i wr => ∃ k : Nat, k ≤ n ∧ i = .int .i64 k ∧ q = .int .i64 (before P c k) ∧ Hid (UWto P c (c + d) k) ∧ Hid (Below w.heap.size w wr)) (fun _ i _ => n - (intOf i).toNat)
  case atStart => exact ⟨0, Nat.zero_le _, rfl, rfl, UWto.zero _ _ _, Below.refl _ _⟩
  case round =>
    obtain ⟨k, hk, rfl, rfl, hu, hB⟩ := hrel
    have hsz := hB.out.size
    by_cases hlt : k < n
    · obtain ⟨g, off, c', hv, c0, c1⟩ := (HX.out.below hB.out).nth (k := k) (by rw [HN.out]; exact hlt)
      rw [HN.out] at hv
      injection hv with e1 e2 e3
      subst e1 e3
      have hbs := before_succ P c k
      obtain ⟨q, hq⟩ : ∃ q, P.getD k noS = q := ⟨_, rfl⟩
      have HQ := keptF hq
      rw [hq] at c0 c1 hbs
      obtain ⟨x, st⟩ := q
      simp only at c0 c1 hbs
      obtain ⟨y, hy⟩ : ∃ y, before P c k = y := ⟨_, rfl⟩
      have HY := keptF hy
      have HBS := keptF hbs
      rw [hy]
      have hB2 : Hid (Below w.heap.size w (wr.alloc (.cells #[.int .i64 x, .bool st] 53))) := hB.out.alloc hsz _
      clear hq hy hbs e2
      by_cases h1 : x ≤ y
      · have d1 : decide (x ≤ y) = true := decide_eq_true h1
        have HF : Hid (b = false) := by
          show _ = _
          cases hbb : b
          · rfl
          · have := (hb.out.1 hbb) k (by rw [HN.out]; exact hlt)
            rw [HQ.out, HY.out] at this
            simp only at this
            omega
        go_wp2
        go_ret
        exact ⟨ret_bool HF.out.symm, hB2.out⟩
      · have d1 : decide (x ≤ y) = false := decide_eq_false h1
        by_cases h2 : c + d < x
        · have d2 : decide (c + d < x) = true := decide_eq_true h2
          have HF : Hid (b = false) := by
            show _ = _
            cases hbb : b
            · rfl
            · have := (hb.out.1 hbb) k (by rw [HN.out]; exact hlt)
              rw [HQ.out, HY.out] at this
              simp only at this
              omega
          go_wp2
          go_ret
          exact ⟨ret_bool HF.out.symm, hB2.out⟩
        · have d2 : decide (c + d < x) = false := decide_eq_false h2
          have hu' : Hid (UWto P c (c + d) (k + 1)) := hu.out.succ (by rw [HQ.out, HY.out]; simp only; omega)
          clear h1 h2
          go_wp2
          go_roundw
          case rel => exact ⟨k + 1, by omega, by go_num, by rw [HBS.out], hu', hB2⟩
          case measure => simp [intOf]; omega
    · obtain rfl : k = n := by omega
      have HT : Hid (b = true) := hb.out.2 (by unfold UnderWay; rw [HN.out]; exact hu.out)
      go_wp2
      go_ret
      exact ⟨ret_bool HT.out.symm, hB.out⟩
/-- block g holds the line -/
def FlAt (w : World) (g : Nat) (l : FL) (s : Value) : Prop := w.heap[g]? = some (.cells (flC l s) 25 (0, 0))
theorem FlAt.new (w : World) (l : FL) (s : Value) : FlAt (w.alloc (.cells (flC l s) 25)) w.heap.size l s := heap_alloc_new w _
theorem FlAt.lt {w : World} {g : Nat} {l : FL} {s : Value} (h : FlAt w g l s) : g < w.heap.size := (Array.getElem?_eq_some_iff.1 h).1
theorem FlAt.below {w w' : World} {g B : Nat} {l : FL} {s : Value} (h : FlAt w g l s) (hb : Below B w w') (hg : g < B) : FlAt w' g l s := (hb.block g hg).trans h
theorem FlAt.cells {w : World} {g : Nat} {l : FL} {s : Value} (h : FlAt w g l s) :
    w.cell? ⟨g, 0, none⟩ = some (.int .i64 l.size) ∧ w.cell? ⟨g, 1, none⟩ = some (.int .i64 l.high) ∧ w.cell? ⟨g, 2, none⟩ = some (.int .i64 l.low) ∧ w.cell? ⟨g, 3, none⟩ = some (.int .i64 l.delay) ∧ w.cell? ⟨g, 4, none⟩ = some (.int .i64 l.every) ∧ w.cell? ⟨g, 5, none⟩ = some (.int .i64 l.left) ∧ w.cell? ⟨g, 6, none⟩ = some (.int .i64 l.held) ∧ w.cell? ⟨g, 7, none⟩ = some (.int .i64 l.printed) ∧ w.cell? ⟨g, 8, none⟩ = some (.int .i64 l.lost) ∧ w.cell? ⟨g, 9, none⟩ = some (.bool l.stopped) ∧ w.cell? ⟨g, 10, none⟩ = some (.bool l.asked) ∧ w.cell? ⟨g, 11, none⟩ = some s ∧ w.cell? ⟨g, 12, none⟩ = some (.int .i64 l.clock) := by
  refine ⟨?_, ?_, ?_, ?_, ?_, ?_, ?_, ?_, ?_, ?_, ?_, ?_, ?_⟩ <;> (rw [cell_of_row w g _ _ _ _ h]; rfl)
/-- a valid line -/
def ValidF (l : FL) (P : List PSig) : Prop := SetUp l ∧ Counted l ∧ UnderWay P l.clock (l.clock + l.delay)
set_option maxHeartbeats 1000000 in
theorem i_ValidFlow (l : FL) (s : Value) (P : List PSig) (b : Bool) (w : World) (hx : SigsAt w s P) (hb : Hid (b = true ↔ ValidF l P)) :
    Calls Try.prog 19 #[flV l s] w fun e w' => e = .returned (.bool b) ∧ Below w.heap.size w w' := by
  have HX := keptF hx
  obtain ⟨a, cp, rfl, _⟩ := hx
  obtain ⟨n, hn⟩ : ∃ n, P.length = n := ⟨_, rfl⟩
  rw [hn] at HX ⊢
  have hB : Below w.heap.size w (w.alloc (.cells (flC l (.slice a n cp)) 25)) := (Below.refl _ _).alloc (Nat.le_refl _) _
  have HB := keptF hB
  have HX1 := keptF (HX.out.below hB)
  have HSU : Hid (∀ b w, Hid (decide (SetUp l) = b) → Calls Try.prog 41 #[flV l (.slice a n cp)] w fun e w' => e = .returned (.bool b) ∧ Below w.heap.size w w') := fun b w h => i_isSetUp l _ b w ⟨_, _, _, rfl⟩ h
  have HCO : Hid (∀ b w, Hid (decide (Counted l) = b) → Calls Try.prog 42 #[flV l (.slice a n cp)] w fun e w' => e = .returned (.bool b) ∧ Below w.heap.size w w') := fun b w h => i_isCounted l _ b w ⟨_, _, _, rfl⟩ h
  clear hn hB
  by_cases h1 : SetUp l
  · have H1 : Hid (decide (SetUp l) = true) := decide_eq_true h1
    by_cases h2 : Counted l
    · have H2 : Hid (decide (Counted l) = true) := decide_eq_true h2
      have HU : Hid (b = true ↔ UnderWay P l.clock (l.clock + l.delay)) := by
        show _ ↔ _
        rw [hb.out, ValidF]
        exact ⟨fun h => h.2.2, fun h => ⟨h1, h2, h⟩⟩
      have hcl := h2.2.2.2.2
      have hdl := h1.2.2.2.1
      obtain ⟨v0, v1, v2, v3, v4, v5, v6, v7, v8, v9, v10, v12⟩ := l
      simp only [flV, flC, In] at HB HX1 HSU HCO H1 H2 HU hcl hdl ⊢
      clear hb h1 h2
      go_enter Try.func19, Try.ntmps19
      go_wp2_with fail
      refine (HSU.out true _ H1).mono ?_
      rintro e w1 ⟨rfl, hb1⟩
      have HF1 := keptF ((FlAt.new w ⟨v0, v1, v2, v3, v4, v5, v6, v7, v8, v9, v10, v12⟩ (.slice a n cp)).below hb1 (by show _ < (World.alloc _ _).heap.size; rw [World.size_alloc]; omega))
      have HX2 := keptF (HX1.out.below hb1)
      have HB1 := keptF (below_next HB.out hb1)
      obtain ⟨c0, c1, c2, c3, c4, c5, c6, c7, c8, c9, c10, c11, c12⟩ := HF1.out.cells
      simp only at c0 c1 c2 c3 c4 c5 c6 c7 c8 c9 c10 c11 c12
      clear hb1
      go_wp2_with fail
      refine (HCO.out true _ H2).mono ?_
      rintro e w2 ⟨rfl, hb2⟩
      have HF2 := keptF (HF1.out.below hb2 HF1.out.lt)
      have HX3 := keptF (HX2.out.below hb2)
      have HB2 := keptF (below_next HB1.out hb2)
      clear c0 c1 c2 c3 c4 c5 c6 c7 c8 c9 c10 c11 c12 hb2
      obtain ⟨c0, c1, c2, c3, c4, c5, c6, c7, c8, c9, c10, c11, c12⟩ := HF2.out.cells
      simp only at c0 c1 c2 c3 c4 c5 c6 c7 c8 c9 c10 c11 c12
      go_wp2_with fail
      refine (i_areUnderWay w2 _ P v12 v3 b HX3.out (by omega) (by omega) HU).mono ?_
      rintro e w3 ⟨rfl, hb3⟩
      have HB3 := keptF (below_next HB2.out hb3)
      go_wp2
      go_ret
      exact ⟨rfl, HB3.out⟩
    · have H2 : Hid (decide (Counted l) = false) := decide_eq_false h2
      have HU : Hid (b = false) := by
        show _ = _
        cases hbb : b
        · rfl
        · exact absurd (hb.out.1 hbb).2.1 h2
      obtain ⟨v0, v1, v2, v3, v4, v5, v6, v7, v8, v9, v10, v12⟩ := l
      simp only [flV, flC] at HB HX1 HSU HCO H1 H2 ⊢
      clear hb h1 h2
      go_enter Try.func19, Try.ntmps19
      go_wp2_with fail
      refine (HSU.out true _ H1).mono ?_
      rintro e w1 ⟨rfl, hb1⟩
      have HF1 := keptF ((FlAt.new w ⟨v0, v1, v2, v3, v4, v5, v6, v7, v8, v9, v10, v12⟩ (.slice a n cp)).below hb1 (by show _ < (World.alloc _ _).heap.size; rw [World.size_alloc]; omega))
      have HB1 := keptF (below_next HB.out hb1)
      obtain ⟨c0, c1, c2, c3, c4, c5, c6, c7, c8, c9, c10, c11, c12⟩ := HF1.out.cells
      simp only at c0 c1 c2 c3 c4 c5 c6 c7 c8 c9 c10 c11 c12
      clear hb1
      go_wp2_with fail
      refine (HCO.out false _ H2).mono ?_
      rintro e w2 ⟨rfl, hb2⟩
      have HB2 := keptF (below_next HB1.out hb2)
      go_wp2
      go_ret
      exact ⟨ret_bool HU.out.symm, HB2.out⟩
  · have H1 : Hid (decide (SetUp l) = false) := decide_eq_false h1
    have HU : Hid (b = false) := by
      show _ = _
      cases hbb : b
      · rfl
      · exact absurd (hb.out.1 hbb).1 h1
    obtain ⟨v0, v1, v2, v3, v4, v5, v6, v7, v8, v9, v10, v12⟩ := l
    simp only [flV, flC] at HB HX1 HSU HCO H1 ⊢
    clear hb h1
    go_enter Try.func19, Try.ntmps19
    go_wp2_with fail
    refine (HSU.out false _ H1).mono ?_
    rintro e w1 ⟨rfl, hb1⟩
    have HB1 := keptF (below_next HB.out hb1)
    go_wp2
    go_ret
    exact ⟨ret_bool HU.out.symm, HB1.out⟩
end Go.Proofs.Ytlkhpfknmdimbaa
