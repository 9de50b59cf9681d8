
/- The draw of pieces for a law; one piece a letter; a word cut and joined. -/
import Derived.Test.YtohgglhjcklbaaaVq
import Derived.Test.YtohgglhjcklbaaaVv
namespace Go.Proofs.Ytohgglhjcklbaaa
open Go.RowKit

/-- a drawn table, a word and pieces -/
def VpMade (w : World) (e : Ending) (w' : World) : Prop :=
  ∃ g n cap T s v P, e = .returned (.tuple #[.slice (some ⟨g, 0, none⟩) n cap, .string s, v]) ∧ TableAt w' (.slice (some ⟨g, 0, none⟩) n cap) T ∧ TableFits T ∧ ByteArray.size s ≤ 17 ∧ PiecesAt w' v P ∧ PiecesFit P ∧ P.length ≤ 40 ∧ Below w.heap.size w w'
theorem pcMid_fit {P : List PPiece} (h : ∀ x ∈ P, PcMid x) : PiecesFit P := fun x hx => by
  have := h x hx
  unfold PcMid at this
  unfold PieceFits
  omega
set_option maxHeartbeats 1000000 in
theorem drawValidPieces_any (w : World) (a : Option Addr) (len cap : Nat) (zs : List Int) (h : RowIn .u8 w a len cap zs) :
    Calls Try.prog 41 #[.slice a len cap] w fun e w' => VpMade w e w' := by
  obtain ⟨h1, h2, h3⟩ := bytesAt_of_row h
  clear h
  go_enter Try.func41, Try.ntmps41
  go_wp2_with fail
  refine (newReader_any w _ a len cap h1 (Nat.le_refl _) h2 h3).mono ?_
  rintro e w1 ⟨L, rfl, hrd, hgr⟩
  have hl1 := hrd.lt
  go_wp2_with fail
  refine (anyTable_any w1 _ _ L 0 hrd (by omega)).mono ?_
  rintro e w2 ⟨v, Q, q, rfl, hT, hF, hlen, hrd2, hq, hgr2⟩
  have hl2 := hrd2.lt
  obtain ⟨g, c, hv⟩ := hT.2.2
  subst hv
  go_wp2_with fail
  refine (anyWord_any w2 _ _ L q hrd2 (by omega)).mono ?_
  rintro e w3 ⟨s, q3, rfl, hs, hrd3, hq3, hgr3⟩
  have hT3 := hT.overR hgr3 hl1
  have HG3 := keptH (grown_trans hgr2 hgr3)
  have hx3 := hT3.at
  have HF := keptH hF
  clear hT hgr2 hgr3 hrd hrd2 hF
  go_wp2_with fail
  refine (anyPieces_any w3 _ _ L q3 g _ c (tabOf Q) s hrd3 (by omega) hx3 w1.heap.size Q hT3 hl1 rfl (tabOf_len Q) HF.out hs).mono ?_
  rintro e w4 ⟨v4, P, q4, rfl, hP4, hPm, hPl, hrd4, hq4, hgr4⟩
  have hG4 := grown_trans HG3.out hgr4
  have FIN := keptH (And.intro (hT3.overR hgr4 hl1).at (And.intro hP4 (below_of_grown (grown_new hgr hG4 (Nat.le_refl _)))))
  clear hx3 hT3 hP4 hrd4 hgr4 hG4 HG3 hrd3
  go_wp2
  refine bodyPost_ret (results_three rfl _ _ _) rfl ?_
  exact ⟨g, _, c, tabOf Q, s, v4, P, rfl, FIN.out.1, HF.out, hs, FIN.out.2.1, pcMid_fit hPm.out, hPl, FIN.out.2.2⟩

/-- one piece for each letter -/
def plainP (n : Nat) : List PPiece := (List.range n).map fun i : Nat => ⟨-1, i, (i : Int) + 1⟩
theorem plainP_len (n : Nat) : (plainP n).length = n := by simp [plainP]
theorem plainP_at {n k : Nat} (h : k < n) : (plainP n).getD k noP = ⟨-1, k, (k : Int) + 1⟩ := by simp [plainP, List.getD_eq_getElem?_getD, h]
theorem plainP_snoc (n : Nat) : plainP n ++ [⟨-1, n, (n : Int) + 1⟩] = plainP (n + 1) := by simp [plainP, List.range_succ]
theorem plainP_end (n : Nat) : ∀ k, k ≤ n → endAt (plainP n) k = k := by
  intro k hk
  cases k with
  | zero => rfl
  | succ k => show ((plainP n).getD k noP).t = _; rw [plainP_at (by omega)]; simp
theorem plainP_valid (T : List PRule) (s : ByteArray) : ValidPv T s (plainP s.size) := by
  refine ⟨fun i hi => ?_, ?_⟩
  · rw [plainP_len] at hi
    rw [plainP_at hi, plainP_end _ i (by omega)]
    exact ⟨rfl, by simp only; omega, by simp only; omega, .inl ⟨rfl, rfl⟩⟩
  · rw [plainP_len, plainP_end _ _ (Nat.le_refl _)]
theorem plainP_fit {n : Nat} (hn : n ≤ 1000) : PiecesFit (plainP n) := by
  intro p hp
  simp [plainP] at hp
  obtain ⟨i, hi, rfl⟩ := hp
  unfold PieceFits
  simp only
  omega
set_option maxHeartbeats 1000000 in
theorem plain_any (w : World) (s : ByteArray) (hs : s.size ≤ 1000) :
    Calls Try.prog 42 #[.string s] w fun e w' => ∃ v, e = .returned v ∧ PiecesAt w' v (plainP s.size) ∧ Below w.heap.size w w' := by
  have hO0 := OwnPc.made w w.heap.size (Nat.le_refl _)
  have hB0 : Below w.heap.size w (w.alloc (.cells #[] 59)) := (Below.refl _ _).alloc (Nat.le_refl _) _
  have HO0 := keptH hO0
  have HB0 := keptH hB0
  obtain ⟨n, hn⟩ : ∃ n, s.size = n := ⟨_, rfl⟩
  have HN := Lib.hid hn
  rw [hn] at hs ⊢
  clear hO0 hB0
  go_enter Try.func42, Try.ntmps42
  go_wp2
  go_loopw [3, 4] (fun o i wr => ∃ k : Nat, k ≤ n ∧ i = .int .i64 k ∧ OwnPc wr w.heap.size o (plainP k) ∧ Below w.heap.size w wr) (fun _ i _ => n - (intOf i).toNat)
  case atStart => exact ⟨0, Nat.zero_le _, rfl, HO0.out, HB0.out⟩
  case round =>
    obtain ⟨k, hk, rfl, hO, hb⟩ := hrel
    have hsz := hb.size
    by_cases hlt : k < n
    · have u2 : IntKind.i64.wrap ((k : Int) + 1) = (k : Int) + 1 := IntWalk.i64_in _ (by omega)
      have HA2 := keptH (pieceAt_alloc wr ⟨-1, (k : Int), (k : Int) + 1⟩)
      have hO2a := keptH (hO.below (Below.alloc (Below.refl _ _) (Nat.le_refl _) (.cells #[.int .i64 (-1), .int .i64 (k : Int), .int .i64 ((k : Int) + 1)] 59)))
      have HB2 := keptH hb
      have HO2 := keptH hO
      clear hb hO
      go_wp2_with (at_builtin; go_loud (refine wpList_append_piece rfl _ _ rfl w.heap.size wr.heap.size ⟨-1, (k : Int), (k : Int) + 1⟩ rfl rfl hO2a.out HA2.out (by rw [plainP_len]; omega) (by simp; omega) ?_))
      intro v3 w3 hO3 hg3
      have hB3 := grown_pc HB2.out hsz HO2.out hg3
      rw [plainP_snoc] at hO3
      have FIN := keptH (And.intro hO3 hB3)
      clear hO3 hB3 hg3
      go_wp2
      go_roundw
      case rel => exact ⟨k + 1, by omega, by go_num, FIN.out.1, FIN.out.2⟩
      case measure => simp [intOf]; omega
    · obtain rfl : k = n := by omega
      have FIN := keptH (And.intro hO.at hb)
      clear hO hb
      go_wp2
      go_ret
      exact ⟨_, rfl, FIN.out.1, FIN.out.2⟩
theorem ext_join (s : ByteArray) {a b : Nat} (h : a ≤ b) : s.extract 0 a ++ s.extract a b = s.extract 0 b := by
  apply ByteArray.ext
  simp only [ByteArray.data_append, ByteArray.data_extract]
  rw [Array.extract_append_extract]
  congr 1 <;> omega
theorem ext_all (s : ByteArray) : s.extract 0 s.size = s := by
  apply ByteArray.ext
  simp only [ByteArray.data_extract]
  exact Array.extract_size
end Go.Proofs.Ytohgglhjcklbaaa
