
/- The draws of two lists of cells, and what is said of the first one; equalFaults. -/
import Derived.Test.YtekchmbbafjmmaaPei
import Derived.Test.YtekchmbbafjmmaaPes
import Derived.Test.YtekchmbbafjmmaaEqInts
namespace Go.Proofs.Ytekchmbbafjmmaa
open Go.RowKit

theorem OwnInts.formP {w : World} {S : Nat} {v : Value} {zs : List Int} (h : OwnInts w S v zs) : (∃ g off n c, v = .slice (some ⟨g, off, none⟩) n c) ∨ v = .slice none 0 0 := by
  rcases h.2 with ⟨h, _⟩ | ⟨g, cap, cur, h, _⟩
  · exact .inr h
  · exact .inl ⟨g, 0, _, _, h⟩
theorem OwnInts.formF {w : World} {S : Nat} {a : Option Addr} {n c : Nat} {zs : List Int} (h : OwnInts w S (.slice a n c) zs) : FormF a n c := by
  rcases h.formP with ⟨g, off, n', c', e⟩ | e
  · injection e with e1 _ _
    exact .inl ⟨g, off, e1⟩
  · injection e with e1 e2 e3
    exact .inr ⟨e1, e2, e3⟩
/-- two lists that were drawn -/
def TwoListsF (w : World) (e : Ending) (w' : World) : Prop :=
  ∃ a n c b m d A B, e = .returned (.tuple #[.slice a n c, .slice b m d]) ∧ OwnInts w' w.heap.size (.slice a n c) A ∧ IntsAt w' (.slice b m d) B ∧ A.length ≤ 8 ∧ B.length ≤ 10 ∧ FormF a n c ∧ Below w.heap.size w w'
set_option maxHeartbeats 2000000 in
theorem drawProofCost_f (w : World) (B : Nat) (a : Option Addr) (len cap : Nat) (h1 : BytesAt w B (.slice a len cap) len) (hBw : B ≤ w.heap.size) (h2 : len ≤ cap) (h3 : cap ≤ maxLen) :
    Calls Try.prog 23 #[.slice a len cap] w fun e w' => TwoListsF w e w' := by
  go_enter Try.func23, Try.ntmps23
  go_wp2_with fail
  refine (newReader_any w B a len cap h1 hBw h2 h3).mono ?_
  rintro e w1 ⟨L, rfl, hrd, hgr⟩
  have hlt1 := hrd.lt
  go_wp2_with fail
  refine (anyCells_any w1 B w.heap.size L 0 8 hrd (by omega) (by omega)).mono ?_
  rintro e w2 ⟨v2, A, q2, rfl, hA, _, hAl, hrd2, hq2, hgr2, a2, n2, c2, rfl⟩
  have hlt2 := hrd2.lt
  go_wp2_with fail
  refine (spoilCells_any w2 B w.heap.size L q2 8 _ A 1 hrd2 (by omega) hA.at hAl (by omega) hA.formP (by omega) (by omega)).mono ?_
  rintro e w3 ⟨g3, n3, c3, zs3, q3, rfl, h3o, h3l, hrd3, hq3, hgr3⟩
  have hA3 := hA.overR hgr3 hlt1
  have hlt3 := hrd3.lt
  go_wp2_with fail
  refine (spoilCells_any w3 B w.heap.size L q3 9 _ zs3 2 hrd3 (by omega) h3o.at h3l (by omega) h3o.formP (by omega) (by omega)).mono ?_
  rintro e w4 ⟨g4, n4, c4, zs4, q4, rfl, h4o, h4l, hrd4, hq4, hgr4⟩
  have hA4 := hA3.overR hgr4 hlt1
  have hlt4 := hrd4.lt
  clear hA hA3 h3o hrd hrd2 hrd3
  go_wp2_with fail
  refine (pick_any w4 B w.heap.size L q4 _ hrd4 (by omega) (by omega) (by omega)).mono ?_
  rintro e w5 ⟨k, rfl, hk, hrd5, hgr5⟩
  have hA5 := hA4.overR hgr5 hlt1
  have h5o := h4o.overR hgr5 hlt3
  have hlt5 := hrd5.lt
  have hg5 := grown_trans (grown_trans hgr2 hgr3) (grown_trans hgr4 hgr5)
  clear hA4 h4o hgr2 hgr3 hgr4 hgr5 hrd4
  by_cases hk0 : k = 0
  · subst hk0
    go_wp2_with fail
    refine (anyCells_any w5 B w.heap.size L _ 8 hrd5 (by omega) (by omega)).mono ?_
    rintro e w6 ⟨v6, Bs, q6, rfl, hB6, _, hBl, hrd6, hq6, hgr6, a6, n6, c6, rfl⟩
    have hA6 := hA5.overR hgr6 hlt1
    have hb := below_of_grown (grown_new hgr (grown_trans hg5 hgr6) (Nat.le_refl _))
    clear hA5 h5o
    go_wp2
    refine bodyPost_ret (results_twoF rfl _ _ _) rfl ?_
    exact ⟨a2, n2, c2, a6, n6, c6, A, Bs, rfl, World.ownsRow.mono hA6 hgr.size, hB6.at, hAl, by omega, hA6.formF, hb⟩
  · have e0 : ((k : Int) == 0) = false := by simp; omega
    have hb := below_of_grown (grown_new hgr hg5 (Nat.le_refl _))
    go_wp2
    refine bodyPost_ret (results_twoF rfl _ _ _) rfl ?_
    exact ⟨a2, n2, c2, _, _, _, A, zs4, rfl, World.ownsRow.mono hA5 hgr.size, h5o.at, hAl, by omega, hA5.formF, hb⟩
set_option maxHeartbeats 1000000 in
theorem drawProofSteps_any (w : World) (a : Option Addr) (len cap : Nat) (zs : List Int) (h : RowIn .u8 w a len cap zs) :
    Calls Try.prog 28 #[.slice a len cap] w fun e w' => TwoListsF w e w' := by
  obtain ⟨h1, h2, h3⟩ := bytesAt_of_row h
  have HD : Hid (Calls Try.prog 23 #[.slice a len cap] w fun e w' => TwoListsF w e w') := drawProofCost_f w w.heap.size a len cap h1 (Nat.le_refl _) h2 h3
  clear h h1
  go_enter Try.func28, Try.ntmps28
  go_wp2_with fail
  refine HD.out.mono ?_
  rintro e w1 ⟨a1, n, ca, b1, m, cb, A, B, rfl, hA, hB, hAl, hBl, hF, hb⟩
  go_wp2
  refine bodyPost_ret (results_twoF rfl _ _ _) rfl ?_
  exact ⟨a1, n, ca, b1, m, cb, A, B, rfl, hA, hB, hAl, hBl, hF, hb⟩
set_option maxHeartbeats 1000000 in
theorem equalFaults_same (w : World) (u v : Value) (P : List PF) (hx : FaultsAt w u P) (hy : FaultsAt w v P) :
    Calls Try.prog 30 #[u, v] w fun e w' => e = .returned (.bool true) ∧ Below w.heap.size w w' := by
  obtain ⟨a, cp, rfl, x1, x2, x3⟩ := hx
  obtain ⟨a', cp', rfl, y1, y2, y3⟩ := hy
  obtain ⟨n, hn⟩ : ∃ n, P.length = n := ⟨_, rfl⟩
  rw [hn] at x1 x3 y1 y3 ⊢
  have HN := Lib.hid hn
  clear hn
  go_enter Try.func30, Try.ntmps30
  go_wp2
  go_loopw [5] (fun i wr => ∃ k : Nat, k ≤ n ∧ i = .int .i64 k ∧ Below w.heap.size w wr) (fun i _ => n - (intOf i).toNat)
  case atStart => exact ⟨0, Nat.zero_le _, rfl, Below.refl _ _⟩
  case round =>
    obtain ⟨k, hk, rfl, hb1⟩ := hrel
    by_cases hlt : k < n
    · rcases x3 with rfl | ⟨g, off, rfl, x3⟩
      · exact absurd HN.out (by simp; omega)
      rcases y3 with rfl | ⟨g', off', rfl, y3⟩
      · exact absurd HN.out (by simp; omega)
      have hra := x3 k hlt
      have hrb := y3 k hlt
      clear x3 y3
      obtain ⟨q, hq⟩ : ∃ q, P.getD k noF = q := ⟨_, rfl⟩
      rw [hq] at hra hrb
      clear hq
      obtain ⟨r, f, t⟩ := q
      obtain ⟨c0, c1, c2⟩ := hra
      obtain ⟨d0, d1, d2⟩ := hrb
      simp only at c0 c1 c2 d0 d1 d2
      have c0 := (hb1.cell (World.block_lt_of_cell? w _ c0)).trans c0
      have c1 := (hb1.cell (World.block_lt_of_cell? w _ c1)).trans c1
      have c2 := (hb1.cell (World.block_lt_of_cell? w _ c2)).trans c2
      have d0 := (hb1.cell (World.block_lt_of_cell? w _ d0)).trans d0
      have d1 := (hb1.cell (World.block_lt_of_cell? w _ d1)).trans d1
      have d2 := (hb1.cell (World.block_lt_of_cell? w _ d2)).trans d2
      have b1 : (0 : Int) ≤ (k : Int) := by omega
      have b2 : (k : Int) < (n : Int) := by omega
      go_wp2_with fail
      go_quiet (fail)
      go_wp2
      go_roundw
      case rel => exact ⟨k + 1, by omega, by go_num, below_drewNP hb1 _⟩
      case measure => simp [intOf]; omega
    · go_wp2
      go_ret
      exact ⟨rfl, hb1⟩
end Go.Proofs.Ytekchmbbafjmmaa
