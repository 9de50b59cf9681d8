
/- The draw of cells that are compared. -/
import Derived.Test.YtekchmbbafjmmaaPdi
import Derived.Test.YtekchmbbafjmmaaNuw
import Derived.Test.YtekchmbbafjmmaaDrL
namespace Go.Proofs.Ytekchmbbafjmmaa
open Go.RowKit

theorem OwnInts.formP {w : World} {S : Nat} {v : Value} {zs : List Int} (h : OwnInts w S v zs) : (∃ g off n c, v = .slice (some ⟨g, off, none⟩) n c) ∨ v = .slice none 0 0 := by
  rcases h.2 with ⟨h, _⟩ | ⟨g, cap, cur, h, _⟩
  · exact .inr h
  · exact .inl ⟨g, 0, _, _, h⟩
/-- a slice of one's own has an address or no room -/
def FormS (a : Option Addr) (n c : Nat) : Prop := (∃ g off, a = some ⟨g, off, none⟩) ∨ (n = 0 ∧ c = 0)
theorem OwnInts.formS {w : World} {S : Nat} {a : Option Addr} {n c : Nat} {zs : List Int} (h : OwnInts w S (.slice a n c) zs) : FormS a n c := by
  rcases h.formP with ⟨g, off, n', c', e⟩ | e
  · injection e with e1 _ _
    exact .inl ⟨g, off, e1⟩
  · injection e with _ e2 e3
    exact .inr ⟨e2, e3⟩
/-- two lists that were drawn -/
def TwoLists (w : World) (e : Ending) (w' : World) : Prop :=
  ∃ a n c b m d A B, e = .returned (.tuple #[.slice a n c, .slice b m d]) ∧ IntsAt w' (.slice a n c) A ∧ IntsAt w' (.slice b m d) B ∧ A.length ≤ 8 ∧ B.length ≤ 10 ∧ FormS a n c ∧ FormS b m d ∧ Below w.heap.size w w'
theorem results_twoPp {fn : Func} {t u : Tmp} (h : fn.results = #[.tmp t, .tmp u]) (tmps : Array Value) (P : Program) (w : World) :
    (results fn tmps).run P w = .ok (.tuple #[tmps.getD t undef, tmps.getD u undef]) w := by
  simp [results, h]
set_option maxHeartbeats 2000000 in
theorem drawProofCost_b (w : World) (B : Nat) (a : Option Addr) (len cap : Nat) (h1 : BytesAt w B (.slice a len cap) len) (hBw : B ≤ w.heap.size) (h2 : len ≤ cap) (h3 : cap ≤ maxLen) :
    Calls Try.prog 23 #[.slice a len cap] w fun e w' => TwoLists w e w' := by
  go_enter Try.func23, Try.ntmps23
  go_wp2_with fail
  refine (newReader_any w B a len cap h1 hBw h2 h3).mono ?_
  rintro e w1 ⟨L, rfl, hrd, hgr⟩
  have hlt1 := hrd.lt
  go_wp2_with fail
  refine (anyCells_any w1 B w.heap.size L 0 8 hrd (by omega) (by omega)).mono ?_
  rintro e w2 ⟨v2, A, q2, rfl, hA, _, hAl, hrd2, hq2, hgr2, a2, n2, c2, rfl⟩
  have hlt2 := hrd2.lt
  go_wp2_with fail
  refine (spoilCells_any w2 B w.heap.size L q2 8 _ A 1 hrd2 (by omega) hA.at hAl (by omega) hA.formP (by omega) (by omega)).mono ?_
  rintro e w3 ⟨g3, n3, c3, zs3, q3, rfl, h3o, h3l, hrd3, hq3, hgr3⟩
  have hA3 := hA.overR hgr3 hlt1
  have hlt3 := hrd3.lt
  go_wp2_with fail
  refine (spoilCells_any w3 B w.heap.size L q3 9 _ zs3 2 hrd3 (by omega) h3o.at h3l (by omega) h3o.formP (by omega) (by omega)).mono ?_
  rintro e w4 ⟨g4, n4, c4, zs4, q4, rfl, h4o, h4l, hrd4, hq4, hgr4⟩
  have hA4 := hA3.overR hgr4 hlt1
  have hlt4 := hrd4.lt
  clear hA hA3 h3o hrd hrd2 hrd3
  go_wp2_with fail
  refine (pick_any w4 B w.heap.size L q4 _ hrd4 (by omega) (by omega) (by omega)).mono ?_
  rintro e w5 ⟨k, rfl, hk, hrd5, hgr5⟩
  have hA5 := hA4.overR hgr5 hlt1
  have h5o := h4o.overR hgr5 hlt3
  have hlt5 := hrd5.lt
  have hg5 := grown_trans (grown_trans hgr2 hgr3) (grown_trans hgr4 hgr5)
  clear hA4 h4o hgr2 hgr3 hgr4 hgr5 hrd4
  by_cases hk0 : k = 0
  · subst hk0
    go_wp2_with fail
    refine (anyCells_any w5 B w.heap.size L _ 8 hrd5 (by omega) (by omega)).mono ?_
    rintro e w6 ⟨v6, Bs, q6, rfl, hB6, _, hBl, hrd6, hq6, hgr6, a6, n6, c6, rfl⟩
    have hA6 := hA5.overR hgr6 hlt1
    have hb := below_of_grown (grown_new hgr (grown_trans hg5 hgr6) (Nat.le_refl _))
    clear hA5 h5o
    go_wp2
    refine bodyPost_ret (results_twoPp rfl _ _ _) rfl ?_
    exact ⟨a2, n2, c2, a6, n6, c6, A, Bs, rfl, hA6.at, hB6.at, hAl, by omega, hA6.formS, hB6.formS, hb⟩
  · have e0 : ((k : Int) == 0) = false := by simp; omega
    have hb := below_of_grown (grown_new hgr hg5 (Nat.le_refl _))
    go_wp2
    refine bodyPost_ret (results_twoPp rfl _ _ _) rfl ?_
    exact ⟨a2, n2, c2, _, _, _, A, zs4, rfl, hA5.at, h5o.at, hAl, by omega, hA5.formS, h5o.formS, hb⟩
theorem drawProofCost_any (w : World) (a : Option Addr) (len cap : Nat) (zs : List Int) (h : RowIn .u8 w a len cap zs) :
    Calls Try.prog 23 #[.slice a len cap] w fun e w' => TwoLists w e w' := by
  obtain ⟨h1, h2, h3⟩ := bytesAt_of_row h
  exact drawProofCost_b w w.heap.size a len cap h1 (Nat.le_refl _) h2 h3
end Go.Proofs.Ytekchmbbafjmmaa
