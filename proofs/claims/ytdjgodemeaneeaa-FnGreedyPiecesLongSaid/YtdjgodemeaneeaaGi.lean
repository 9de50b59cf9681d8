
/- Greedy pieces of drawn tables and words: they are valid, and no rule that applies is longer. -/
import Derived.Test.YtdjgodemeaneeaaGk
import Derived.Test.YtdjgodemeaneeaaVw
import Derived.Test.YtdjgodemeaneeaaPh
namespace Go.Proofs.Ytdjgodemeaneeaa
open Go.RowKit

theorem results_two {fn : Func} {t u : Tmp} (h : fn.results = #[.tmp t, .tmp u]) (tmps : Array Value) (P : Program) (w : World) :
    (results fn tmps).run P w = .ok (.tuple #[tmps.getD t undef, tmps.getD u undef]) w := by
  simp [results, h]
/-- a drawn table and a word -/
def GrMade (w : World) (e : Ending) (w' : World) : Prop :=
  ∃ S g n cap Q s, e = .returned (.tuple #[.slice (some ⟨g, 0, none⟩) n cap, .string s]) ∧ TabOwn w' S (.slice (some ⟨g, 0, none⟩) n cap) Q ∧ Hid (Q.length = n) ∧ TableFits (tabOf Q) ∧ n ≤ 9 ∧ S ≤ w'.heap.size ∧ Below w.heap.size w w' ∧ ByteArray.size s ≤ 17
set_option maxHeartbeats 1000000 in
theorem drawGreedy_any (w : World) (a : Option Addr) (len cap : Nat) (zs : List Int) (h : RowIn .u8 w a len cap zs) :
    Calls Try.prog 12 #[.slice a len cap] w fun e w' => GrMade w e w' := by
  obtain ⟨h1, h2, h3⟩ := bytesAt_of_row h
  clear h
  go_enter Try.func12, Try.ntmps12
  go_wp2_with fail
  refine (newReader_any w _ a len cap h1 (Nat.le_refl _) h2 h3).mono ?_
  rintro e w1 ⟨L, rfl, hrd, hgr⟩
  have hl1 := hrd.lt
  go_wp2_with fail
  refine (anyTable_any w1 _ _ L 0 hrd (by omega)).mono ?_
  rintro e w2 ⟨v, Q, q, rfl, hT, hF, hlen, hrd2, hq, hgr2⟩
  have hl2 := hrd2.lt
  obtain ⟨g, c, hv⟩ := hT.2.2
  subst hv
  go_wp2_with fail
  refine (anyWord_any w2 _ _ L q hrd2 (by omega)).mono ?_
  rintro e w3 ⟨s, q3, rfl, hs, hrd3, hq3, hgr3⟩
  have hl3 := hrd3.lt
  have hT3 := hT.overR hgr3 hl1
  have hG3 := grown_trans hgr2 hgr3
  have FIN := keptH (And.intro hT3 (And.intro hF (And.intro hG3.size (below_of_grown (grown_new hgr hG3 (Nat.le_refl _))))))
  clear hT hgr2 hgr3 hrd hrd2 hT3 hrd3 hF hG3 hgr
  go_wp2
  refine bodyPost_ret (results_two rfl _ _ _) rfl ?_
  exact ⟨_, g, _, c, Q, s, rfl, FIN.out.1, rfl, FIN.out.2.1, hlen, FIN.out.2.2.1, FIN.out.2.2.2, hs⟩

theorem rulesL_mem {T : List PRule} {s : ByteArray} {p : Int} {k : Nat} : (k : Int) ∈ rulesL T s p ↔ k < T.length ∧ App (T.getD k noR) s p := by
  have key : ∀ n, (k : Int) ∈ rulesTo T s p n ↔ k < n ∧ App (T.getD k noR) s p := by
    intro n
    induction n with
    | zero => simp [rulesTo]
    | succ n ih =>
      show (k : Int) ∈ rulesTo T s p n ++ _ ↔ _
      rw [List.mem_append, ih]
      constructor
      · rintro (⟨h1, h2⟩ | h)
        · exact ⟨by omega, h2⟩
        · split at h
          · rename_i hA
            simp at h
            obtain rfl : k = n := by omega
            exact ⟨by omega, hA⟩
          · simp at h
      · rintro ⟨h1, h2⟩
        by_cases hk : k = n
        · subst hk
          right; rw [if_pos h2]; simp
        · exact .inl ⟨by omega, h2⟩
  exact key T.length
/-- no rule applies where a letter stands for itself -/
theorem bst_none {T : List PRule} {s : ByteArray} {k : Nat} (h : bst T s k = -1) : rulesL T s k = [] := by
  rcases lgTo_bst T s k with ⟨_, h2⟩ | ⟨j, h1, _⟩
  · cases hL : rulesL T s k with
    | nil => rfl
    | cons z t =>
      have hz : z ∈ rulesL T s k := by rw [hL]; exact List.mem_cons_self ..
      have := rulesTo_nn T.length hz
      obtain ⟨m, rfl⟩ : ∃ m : Nat, z = m := ⟨z.toNat, by omega⟩
      have := rulesL_mem.1 hz
      exact absurd this.2 (h2 m this.1)
  · unfold bst at h; omega
/-- no rule that applies is longer than the chosen piece -/
theorem bst_long {T : List PRule} {s : ByteArray} {k : Nat} {z : Int} (hz : z ∈ rulesL T s k) : 0 ≤ z ∧ z < T.length ∧ ((T.getD z.toNat noR).t.size : Int) ≤ (pcG T s k).t - (pcG T s k).f := by
  have hn := rulesTo_nn T.length hz
  obtain ⟨m, rfl⟩ : ∃ m : Nat, z = m := ⟨z.toNat, by omega⟩
  have hm := rulesL_mem.1 hz
  refine ⟨hn.1, hn.2, ?_⟩
  rw [Int.toNat_natCast]
  rcases lgTo_bst T s k with ⟨_, h2⟩ | ⟨j, h1, h3, _, h4⟩
  · exact absurd hm.2 (h2 m hm.1)
  · have h5 := h4 m hm.1 hm.2
    unfold pcG pcB bst
    rw [h1, if_neg (by omega)]
    have h6 : szR T (j : Int) = (T.getD j noR).t.size := by unfold szR; rw [Int.toNat_natCast]
    simp only
    rw [h6]
    omega
theorem grL_at {T : List PRule} {s : ByteArray} : ∀ j i, i < j → (grL T s j).getD i noP = pcG T s (gpos T s i) := by
  intro j
  induction j with
  | zero => intro i h; omega
  | succ j ih =>
    intro i h
    show (grL T s j ++ [pcG T s (gpos T s j)]).getD i noP = _
    rw [List.getD_eq_getElem?_getD]
    by_cases hi : i < j
    · rw [List.getElem?_append_left (by rw [grL_len]; exact hi), ← List.getD_eq_getElem?_getD]
      exact ih i hi
    · obtain rfl : i = j := by omega
      rw [List.getElem?_append_right (by rw [grL_len]; omega), grL_len]
      simp
theorem grL_endAt {T : List PRule} {s : ByteArray} (hv : ValidTb T) {j : Nat} (h1 : ∀ i, i < j → gpos T s i < s.size) : ∀ i, i ≤ j → endAt (grL T s j) i = gpos T s i := by
  intro i hi
  cases i with
  | zero => rfl
  | succ i =>
    show ((grL T s j).getD i noP).t = ((pcG T s (gpos T s i)).t.toNat : Nat)
    rw [grL_at j i (by omega)]
    have := pcG_bd hv (h1 i (by omega))
    omega
theorem pcG_ok {T : List PRule} {s : ByteArray} (hv : ValidTb T) {k : Nat} (hk : k < s.size) : PcOk T s (pcG T s k) := by
  have hb := pcG_bd hv hk
  refine ⟨by omega, by omega, ?_⟩
  have hbs := lgTo_bst T s k
  unfold pcG pcB bst
  rcases hbs with ⟨h1, h2⟩ | ⟨j, h1, hj, hA, h2⟩
  · left
    rw [h1, if_pos rfl]
    exact ⟨rfl, rfl⟩
  · right
    rw [h1, if_neg (by omega)]
    have h5 : szR T (j : Int) = (T.getD j noR).t.size := by unfold szR; rw [Int.toNat_natCast]
    simp only [Int.toNat_natCast]
    exact ⟨by omega, by omega, hA, by rw [h5]⟩
theorem grL_valid {T : List PRule} {s : ByteArray} (hv : ValidTb T) {j : Nat} (h1 : ∀ i, i < j → gpos T s i < s.size) (h2 : s.size ≤ gpos T s j) (h0 : 0 < s.size) : ValidPv T s (grL T s j) := by
  refine ⟨fun i hi => ?_, ?_⟩
  · rw [grL_len] at hi
    rw [grL_at j i hi, grL_endAt hv h1 i (by omega)]
    exact ⟨(pcG_bd hv (h1 i hi)).2.1, pcG_ok hv (h1 i hi)⟩
  · rw [grL_len, grL_endAt hv h1 j (Nat.le_refl _)]
    cases j with
    | zero =>
      have hg0 : gpos T s 0 = 0 := rfl
      omega
    | succ j =>
      have := pcG_bd hv (h1 j (by omega))
      have hg : gpos T s (j + 1) = (pcG T s (gpos T s j)).t.toNat := rfl
      omega
theorem grL_fit {T : List PRule} {s : ByteArray} (hv : ValidTb T) {j : Nat} (h1 : ∀ i, i < j → gpos T s i < s.size) (hs : s.size ≤ 1000) : PiecesFit (grL T s j) := by
  have hT := hv.1
  intro x hx
  obtain ⟨i, hi, rfl⟩ := List.getElem_of_mem hx
  rw [grL_len] at hi
  have e := grL_at (T := T) (s := s) j i hi
  rw [List.getD_eq_getElem?_getD, List.getElem?_eq_getElem (by rw [grL_len]; exact hi), Option.getD_some] at e
  rw [e]
  have := pcG_bd hv (h1 i hi)
  have h16 : T.length ≤ 16 := hT
  refine ⟨?_, ?_, ?_⟩ <;> omega

/-- the lists of pieces that both sides make of a table and a word -/
theorem gr_lists (T : List PRule) (s : ByteArray) (g n c : Nat) (hn : T.length = n) (hf : TableFits T) (hs : s.size ≤ 17) :
    ∃ P : List PPiece, Hid (∀ wx, TableAt wx (.slice (some ⟨g, 0, none⟩) n c) T → Calls Try.prog 15 #[.slice (some ⟨g, 0, none⟩) n c, .string s] wx fun e w' => PcsMade P wx e w') ∧ Hid (∀ wx, TableAt wx (.slice (some ⟨g, 0, none⟩) n c) T → Calls Try.prog 13 #[.slice (some ⟨g, 0, none⟩) n c, .string s] wx fun e w' => PcsMade P wx e w') ∧
      P.length ≤ 16 ∧ (P = [] ∨ Hid ((ValidTb T ∧ WordB 16 s.data.toList) ∧ PiecesFit P ∧ ValidPv T s P ∧ ∀ i, i < P.length → ∃ q : Nat, (P.getD i noP).f = q ∧ (P.getD i noP).r < 20 ∧ q ≤ 16 ∧ (P.getD i noP).t ≤ 16 ∧ ((P.getD i noP).r < 0 → rulesL T s q = []) ∧ ∀ z ∈ rulesL T s q, 0 ≤ z ∧ z < T.length ∧ ((T.getD z.toNat noR).t.size : Int) ≤ (P.getD i noP).t - q)) := by
  have hss : s.size ≤ 9223372036854775807 := by omega
  by_cases hv : ValidTb T ∧ WordB 16 s.data.toList
  · obtain ⟨j, h1, h2, h3⟩ := greedy_end hv.1 s
    have h4 := hv.2.2.1
    rw [wd_size] at h4
    have h0 : 0 < s.size := by have := hv.2.1; rw [wd_size] at this; omega
    have h16 : T.length ≤ 16 := hv.1.1
    refine ⟨grL T s j, fun wx h => (s_GreedyPieces wx g n c T s h hn hf (Lib.hid hv.1) (Lib.hid hv.2)).mono fun e w' hm => made_of_greedy hm h1 h2, fun wx h => (i_GreedyPieces wx _ T s h hf (Lib.hid hv.1) (Lib.hid hv.2)).mono fun e w' hm => made_of_greedy hm h1 h2, by rw [grL_len]; omega, .inr ⟨hv, grL_fit hv.1 h1 (by omega), grL_valid hv.1 h1 h2 h0, fun i hi => ?_⟩⟩
    rw [grL_len] at hi
    have hg := h1 i hi
    obtain ⟨b1, b2, b3, b4, b5⟩ := pcG_bd hv.1 hg
    rw [grL_at j i hi]
    refine ⟨gpos T s i, b2, by omega, by omega, by omega, fun hr => bst_none (by omega), fun z hz => ?_⟩
    have := bst_long hz
    rw [b2] at this
    exact this
  · exact ⟨[], fun wx h => s_Greedy_no wx _ T s h hf hss (Lib.hid hv), fun wx h => i_Greedy_no wx _ T s h hf hss (Lib.hid hv), by simp, .inl rfl⟩
end Go.Proofs.Ytdjgodemeaneeaa
