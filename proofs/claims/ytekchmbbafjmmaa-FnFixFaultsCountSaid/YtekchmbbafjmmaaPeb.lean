
/- Marks in a row of faults that a call has made, and whether they are held; sizes. -/
import Derived.Test.YtekchmbbafjmmaaPea
import Derived.Test.YtekchmbbafjmmaaIa
namespace Go.Proofs.Ytekchmbbafjmmaa
open Go.RowKit

theorem ret_f64 {a b : Int} (h : a = b) : Ending.returned (.int .i64 a) = .returned (.int .i64 b) := by rw [h]
theorem szFaultS_any (w : World) (v : Value) (P : List PF) (l : Int) (hx : FaultsAt w v P) (h0 : 0 ≤ l) (h1 : l ≤ 1048576) :
    Calls Try.prog 42 #[v, .int .i64 l] w fun e w' => (∃ k : Int, e = .returned (.int .i64 k) ∧ (k = -1 ∨ (0 ≤ k ∧ k ≤ 1048576 ∧ P.length ≤ 1048576))) ∧ w = w' := by
  obtain ⟨a, cp, rfl, x1, x2, x3⟩ := hx
  obtain ⟨n, hn⟩ : ∃ n, P.length = n := ⟨_, rfl⟩
  rw [hn] at x1 x3 ⊢
  clear hn x3
  have hu1 : IntKind.i64.wrap (l - (n : Int)) = l - (n : Int) := IntWalk.i64_in _ (by omega)
  by_cases c : l - (n : Int) < 0
  · have d1 : decide (l - (n : Int) < 0) = true := decide_eq_true c
    go_enter Try.func42, Try.ntmps42
    go_wp2
    go_ret
    exact ⟨⟨-1, rfl, .inl rfl⟩, rfl⟩
  · have d1 : decide (l - (n : Int) < 0) = false := decide_eq_false c
    go_enter Try.func42, Try.ntmps42
    go_wp2
    go_ret
    exact ⟨⟨_, rfl, .inr ⟨by omega, by omega, by omega⟩⟩, rfl⟩

theorem OwnFn.of_block {w w' : World} {base : Nat} {v : Value} {P : List PF} (h : OwnFn w base v P) (hk : ∀ k, v.ownBlock = some k → w'.heap[k]? = w.heap[k]?) : OwnFn w' base v P := by
  rcases h with ⟨h0, ⟨hv, hn⟩ | ⟨g, cap, cur, hv, hb, hg, h1, h2, h3, h4⟩⟩
  · exact ⟨h0, .inl ⟨hv, hn⟩⟩
  · exact ⟨h0, .inr ⟨g, cap, cur, hv, hb, (hk g (by rw [hv]; rfl)).trans hg, h1, h2, h3, h4⟩⟩
theorem fcells_set3 : ∀ (P : List PF) (i : Nat) (_ : i < P.length) (x y z : Int), (((fcells P).set (i * 3) (.int .i64 x)).set (i * 3 + 1) (.int .i64 y)).set (i * 3 + 2) (.int .i64 z) = fcells (P.set i ⟨x, y, z⟩) := by
  intro P
  induction P with
  | nil => intro i h; simp at h
  | cons q P ih =>
    intro i h x y z
    have hl : (fcell q).length = 3 := rfl
    cases i with
    | zero => rfl
    | succ i =>
      have h' : i < P.length := by simpa using h
      show (((fcell q ++ fcells P).set ((i + 1) * 3) _).set ((i + 1) * 3 + 1) _).set ((i + 1) * 3 + 2) _ = _
      rw [List.set_append_right _ _ (by rw [hl]; omega), List.set_append_right _ _ (by rw [hl]; omega), List.set_append_right _ _ (by rw [hl]; omega), hl, show (i + 1) * 3 - 3 = i * 3 from by omega, show (i + 1) * 3 + 1 - 3 = i * 3 + 1 from by omega, show (i + 1) * 3 + 2 - 3 = i * 3 + 2 from by omega, ih i h' x y z]
      rfl
theorem OwnFn.len {w : World} {S n c : Nat} {a : Option Addr} {P : List PF} (h : OwnFn w S (.slice a n c) P) : P.length = n := by
  rcases h.2 with ⟨e, hn⟩ | ⟨g, cap, cur, e, _⟩
  · injection e with _ e2 _; rw [hn, e2]
  · injection e with _ e2 _; exact e2.symm
theorem OwnFn.addr {w : World} {S n c : Nat} {a : Option Addr} {P : List PF} (h : OwnFn w S (.slice a n c) P) (hn : 0 < n) : ∃ g, a = some ⟨g, 0, none⟩ ∧ S ≤ g ∧ g < w.heap.size := by
  have hl := h.len
  rcases h.2 with ⟨e, h0⟩ | ⟨g, cap, cur, e, h1, h2, _⟩
  · omega
  · have e' := e
    injection e with e1 _ _
    subst e1
    exact ⟨g, rfl, World.ownsRow.lt h g rfl⟩
theorem OwnFn.set3 {w : World} {S g n c : Nat} {P : List PF} (h : OwnFn w S (.slice (some ⟨g, 0, none⟩) n c) P) {i : Nat} (hi : i < n) (x y z : Int) :
    OwnFn (((w.setCell ⟨g, i * 3, none⟩ (.int .i64 x)).setCell ⟨g, i * 3 + 1, none⟩ (.int .i64 y)).setCell ⟨g, i * 3 + 2, none⟩ (.int .i64 z)) S (.slice (some ⟨g, 0, none⟩) n c) (P.set i ⟨x, y, z⟩) := by
  have hl := h.len
  subst hl
  have := (World.ownsRow.stored (World.ownsRow.stored (World.ownsRow.stored h (i * 3) (.int .i64 x)).1 (i * 3 + 1) (.int .i64 y)).1 (i * 3 + 2) (.int .i64 z)).1
  rw [fcells_set3 P i hi x y z] at this
  unfold OwnFn
  rw [List.length_set]
  exact this
theorem OwnFn.cell3 {w : World} {S g n c : Nat} {P : List PF} (h : OwnFn w S (.slice (some ⟨g, 0, none⟩) n c) P) {i : Nat} (hi : i < n) :
    w.cell? ⟨g, i * 3, none⟩ = some (.int .i64 (P.getD i noF).k) ∧ w.cell? ⟨g, i * 3 + 1, none⟩ = some (.int .i64 (P.getD i noF).i) ∧ w.cell? ⟨g, i * 3 + 2, none⟩ = some (.int .i64 (P.getD i noF).c) ∧ ∀ j, w.frozen? ⟨g, j, none⟩ = false := by
  have hl := h.len
  subst hl
  exact OwnFc.cell3 (S := S) ⟨h, g, c, rfl⟩ hi
def mkF (k : Nat) : PF := ⟨1 + 3 * (k : Int), 2 + 3 * (k : Int), 3 + 3 * (k : Int)⟩
def mkFL (P : List PF) : Nat → List PF
  | 0 => P
  | k + 1 => (mkFL P k).set k (mkF k)
theorem mkFL_len (P : List PF) (k : Nat) : (mkFL P k).length = P.length := by
  induction k with
  | zero => rfl
  | succ k ih => show ((mkFL P k).set k _).length = _; rw [List.length_set, ih]
theorem mkFL_at (P : List PF) : ∀ k, k ≤ P.length → ∀ i, i < k → (mkFL P k).getD i noF = mkF i := by
  intro k
  induction k with
  | zero => intro _ i hi; omega
  | succ k ih =>
    intro hk i hi
    show ((mkFL P k).set k (mkF k)).getD i noF = _
    rw [List.getD_eq_getElem?_getD, List.getElem?_set]
    by_cases hik : k = i
    · subst hik
      rw [if_pos rfl, if_pos (by rw [mkFL_len]; omega), Option.getD_some]
    · rw [if_neg hik, ← List.getD_eq_getElem?_getD]
      exact ih (by omega) i (by omega)
set_option maxHeartbeats 2000000 in
theorem markFaultS_own (w : World) (base : Nat) (a : Option Addr) (n c : Nat) (P : List PF) (hO : OwnFn w base (.slice a n c) P) (hn : n ≤ 1000) (hb : base ≤ w.heap.size) :
    Calls Try.prog 40 #[.slice a n c, .int .i64 1] w fun e w' => e = .returned (.int .i64 (1 + 3 * (n : Int))) ∧ OwnFn w' base (.slice a n c) (mkFL P n) ∧ Below base w w' := by
  have HO := keptI hO
  clear hO
  go_enter Try.func40, Try.ntmps40
  go_wp2
  go_loopw [1, 5] (fun q i wr => ∃ (k : Nat) (m : Int), k ≤ n ∧ i = .int .i64 k ∧ q = .int .i64 m ∧ m = 1 + 3 * (k : Int) ∧ OwnFn wr base (.slice a n c) (mkFL P k) ∧ Below base w wr) (fun _ i _ => n - (intOf i).toNat)
  case atStart => exact ⟨0, 1, Nat.zero_le _, rfl, rfl, rfl, HO.out, Below.refl _ _⟩
  case round =>
    obtain ⟨k, m, hk, rfl, rfl, hm, hO, hB⟩ := hrel
    by_cases hlt : k < n
    · obtain ⟨g, rfl, hg1, hg2⟩ := hO.addr (by omega)
      obtain ⟨e0, e1, e2, hfr⟩ := hO.cell3 hlt
      have f0 := hfr (k * 3)
      have f1 := hfr (k * 3 + 1)
      have f2 := hfr (k * 3 + 2)
      have hO3 := hO.set3 hlt m (m + 1) (m + 1 + 1)
      have hB3 : Below base w (((wr.setCell ⟨g, k * 3, none⟩ (.int .i64 m)).setCell ⟨g, k * 3 + 1, none⟩ (.int .i64 (m + 1))).setCell ⟨g, k * 3 + 2, none⟩ (.int .i64 (m + 1 + 1))) := by
        have h1 := hB.grown (grown_store wr g (k * 3) (.int .i64 m)) (Nat.le_trans hb hB.size) (fun q hq => by injection hq with hq; omega)
        have h2 := h1.grown (grown_store _ g (k * 3 + 1) (.int .i64 (m + 1))) (Nat.le_trans hb h1.size) (fun q hq => by injection hq with hq; omega)
        exact h2.grown (grown_store _ g (k * 3 + 2) (.int .i64 (m + 1 + 1))) (Nat.le_trans hb h2.size) (fun q hq => by injection hq with hq; omega)
      have hmk : mkFL P (k + 1) = (mkFL P k).set k ⟨m, m + 1, m + 1 + 1⟩ := by
        show (mkFL P k).set k (mkF k) = _
        rw [mkF, hm]
        congr 2 <;> omega
      rw [← hmk] at hO3
      have NXT := keptI (And.intro hO3 hB3)
      have HMM := Lib.hid hm
      have bm : 0 ≤ m ∧ m ≤ 10000 := by omega
      clear hO3 hB3 hmk hO hB hfr hm
      go_wp2
      go_roundw
      case rel => exact ⟨k + 1, m + 1 + 1 + 1, by omega, by go_num, rfl, by have := HMM.out; omega, NXT.out.1, NXT.out.2⟩
      case measure => simp [intOf]; omega
    · obtain rfl : k = n := by omega
      have HMM := Lib.hid hm
      have FIN := keptI (And.intro hO hB)
      clear hO hB hm
      go_wp2
      go_ret
      exact ⟨ret_f64 HMM.out, FIN.out.1, FIN.out.2⟩
set_option maxHeartbeats 2000000 in
theorem heldFaultS_own (w : World) (base : Nat) (a : Option Addr) (n c : Nat) (P : List PF) (hO : OwnFn w base (.slice a n c) (mkFL P n)) (hn : n ≤ 1000) :
    Calls Try.prog 41 #[.slice a n c, .int .i64 1] w fun e w' => e = .returned (.int .i64 (1 + 3 * (n : Int))) ∧ w = w' := by
  have hl := hO.len
  rw [mkFL_len] at hl
  have HL := Lib.hid hl
  have HO := keptI hO
  clear hO hl
  go_enter Try.func41, Try.ntmps41
  go_wp2
  go_loop [1, 5] (fun q i => ∃ (k : Nat) (m : Int), k ≤ n ∧ i = .int .i64 k ∧ q = .int .i64 m ∧ m = 1 + 3 * (k : Int)) (fun _ i => n - (intOf i).toNat)
  case atStart => exact ⟨0, 1, Nat.zero_le _, rfl, rfl, rfl⟩
  case round =>
    obtain ⟨k, m, hk, rfl, rfl, hm⟩ := hrel
    by_cases hlt : k < n
    · obtain ⟨g, rfl, _, _⟩ := HO.out.addr (by omega)
      obtain ⟨e0, e1, e2, _⟩ := HO.out.cell3 hlt
      rw [mkFL_at P n (by rw [HL.out]; omega) k hlt] at e0 e1 e2
      rw [show (mkF k).k = m from by rw [hm]; rfl] at e0
      rw [show (mkF k).i = m + 1 from by rw [hm]; show 2 + 3 * (k : Int) = _; omega] at e1
      rw [show (mkF k).c = m + 1 + 1 from by rw [hm]; show 3 + 3 * (k : Int) = _; omega] at e2
      have HMM := Lib.hid hm
      have bm : 0 ≤ m ∧ m ≤ 10000 := by omega
      clear hm
      go_wp2
      go_round
      case rel => exact ⟨k + 1, m + 1 + 1 + 1, by omega, by go_num, rfl, by have := HMM.out; omega⟩
      case measure => simp [intOf]; omega
    · obtain rfl : k = n := by omega
      have HMM := Lib.hid hm
      clear hm
      go_wp2
      go_ret
      exact ⟨ret_f64 HMM.out, rfl⟩
end Go.Proofs.Ytekchmbbafjmmaa
