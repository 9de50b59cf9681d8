/- Merged: Pv Pw Pg Ph. -/
import Derived.Test.YthojahknocageaaMD
import Derived.Test.YthojahknocageaaMB

/- Whether pieces make up a word, in the program. -/
namespace Go.Proofs.Ythojahknocageaa
open Go.RowKit

/-- one letter of the word, or the letters of a rule that applies there -/
def PcOk (T : List PRule) (s : ByteArray) (p : PPiece) : Prop :=
  0 ≤ p.f ∧ p.f < s.size ∧ ((p.r = -1 ∧ p.t = p.f + 1) ∨ (0 ≤ p.r ∧ p.r < T.length ∧ App (T.getD p.r.toNat noR) s p.f ∧ p.t = p.f + (T.getD p.r.toNat noR).t.size))
instance (T : List PRule) (s : ByteArray) (p : PPiece) : Decidable (PcOk T s p) := inferInstanceAs (Decidable (_ ∧ _))
theorem pcOk_end {T : List PRule} {s : ByteArray} {p : PPiece} (h : PcOk T s p) (hv : ∀ i, i < T.length → ValidR (T.getD i noR)) : 0 ≤ p.f ∧ p.f < p.t ∧ p.t ≤ s.size := by
  obtain ⟨h1, h2, ⟨h3, h4⟩ | ⟨h3, h4, h5, h6⟩⟩ := h
  · omega
  · have h7 := (hv p.r.toNat (by omega)).1.1
    rw [wd_size] at h7
    have h8 := h5.2.1
    omega
theorem TableAt.nth {w : World} {g off n cp : Nat} {T : List PRule} (h : TableAt w (.slice (some ⟨g, off, none⟩) n cp) T) {k : Nat} (hk : k < T.length) : RuleAt w g (off + k * 3) (T.getD k noR) := by
  obtain ⟨a, c, h1, _, _, h4⟩ := h
  injection h1 with e1 _ _
  rcases h4 with rfl | ⟨g', off', h5, h6⟩
  · exact absurd hk (by simp)
  · rw [← e1] at h5
    injection h5 with e
    injection e with e2 e3 _
    subst e2 e3
    exact h6 k hk

/-- where the first k pieces end -/
def endAt (P : List PPiece) : Nat → Int
  | 0 => 0
  | k + 1 => (P.getD k noP).t
/-- the first k pieces are pieces of the word, one behind the other -/
def PvUp (T : List PRule) (s : ByteArray) (P : List PPiece) (k : Nat) : Prop := ∀ i, i < k → (P.getD i noP).f = endAt P i ∧ PcOk T s (P.getD i noP)
theorem PvUp.zero (T : List PRule) (s : ByteArray) (P : List PPiece) : PvUp T s P 0 := fun i h => absurd h (by omega)
theorem PvUp.succ {T : List PRule} {s : ByteArray} {P : List PPiece} {k : Nat} (h : PvUp T s P k) (e : (P.getD k noP).f = endAt P k ∧ PcOk T s (P.getD k noP)) : PvUp T s P (k + 1) := fun i hi => by
  by_cases hik : i = k
  · subst hik; exact e
  · exact h i (by omega)
def ValidPv (T : List PRule) (s : ByteArray) (P : List PPiece) : Prop := PvUp T s P P.length ∧ endAt P P.length = s.size
theorem endAt_bd {T : List PRule} {s : ByteArray} {P : List PPiece} {k : Nat} (h : PvUp T s P k) (hv : ∀ i, i < T.length → ValidR (T.getD i noR)) : 0 ≤ endAt P k ∧ endAt P k ≤ s.size := by
  cases k with
  | zero => simp [endAt]
  | succ k =>
    have := pcOk_end (h k (by omega)).2 hv
    simp only [endAt]; omega

end Go.Proofs.Ythojahknocageaa


/- Whether pieces make up a word, in the model. -/
namespace Go.Proofs.Ythojahknocageaa
open Go.RowKit

end Go.Proofs.Ythojahknocageaa


/- The cells of pieces, in the program. -/
namespace Go.Proofs.Ythojahknocageaa
open Go.RowKit

/-- the cell of the letter at the index f -/
def letS (s : ByteArray) (f : Int) : Int := letL.getD ((s.data.toList.getD f.toNat 0).toNat - 97) 0
/-- the cells of a piece -/
def pcC (T : List PRule) (s : ByteArray) (p : PPiece) : List Int := if p.r = -1 then [letS s p.f] else (T.getD p.r.toNat noR).c
def pcsTo (T : List PRule) (s : ByteArray) (P : List PPiece) : Nat → List Int
  | 0 => []
  | k + 1 => pcsTo T s P k ++ pcC T s (P.getD k noP)
def pcsL (T : List PRule) (s : ByteArray) (P : List PPiece) : List Int := pcsTo T s P P.length
theorem endAt_ge {T : List PRule} {s : ByteArray} {P : List PPiece} (hv : ∀ i, i < T.length → ValidR (T.getD i noR)) : ∀ k, PvUp T s P k → (k : Int) ≤ endAt P k := by
  intro k
  induction k with
  | zero => intro _; simp [endAt]
  | succ k ih =>
    intro h
    have h1 := ih fun i hi => h i (by omega)
    have h2 := (h k (by omega)).1
    have h3 := pcOk_end (h k (by omega)).2 hv
    show _ ≤ (P.getD k noP).t
    omega
theorem pcC_len {T : List PRule} {s : ByteArray} {p : PPiece} (h : PcOk T s p) (hv : ∀ i, i < T.length → ValidR (T.getD i noR)) : 1 ≤ (pcC T s p).length ∧ (pcC T s p).length ≤ 2 := by
  unfold pcC
  split
  · simp
  · rename_i h0
    rcases h.2.2 with ⟨h1, _⟩ | ⟨h1, h2, _⟩
    · exact absurd h1 h0
    · exact (hv p.r.toNat (by omega)).2.1
theorem pcsTo_len {T : List PRule} {s : ByteArray} {P : List PPiece} (hv : ∀ i, i < T.length → ValidR (T.getD i noR)) : ∀ k, PvUp T s P k → (pcsTo T s P k).length ≤ 2 * k := by
  intro k
  induction k with
  | zero => intro _; simp [pcsTo]
  | succ k ih =>
    intro h
    have h1 := ih fun i hi => h i (by omega)
    have h2 := pcC_len (h k (by omega)).2 hv
    show (pcsTo T s P k ++ _).length ≤ _
    rw [List.length_append]; omega
theorem small_at {s : ByteArray} (hw : WordB 16 s.data.toList) {k : Nat} (hk : k < s.size) : ∃ j : Nat, j < 26 ∧ (s[k]'hk).toNat = 97 + j ∧ letS s (k : Int) = letL.getD j 0 := by
  have hl : k < s.data.toList.length := by rw [wd_size]; exact hk
  have h := hw.2.2 _ (List.getElem_mem hl)
  rw [wd_byte hk hl] at h
  have h' : 97 ≤ (s[k]'hk).toNat ∧ (s[k]'hk).toNat ≤ 122 := of_decide_eq_true h
  refine ⟨(s[k]'hk).toNat - 97, by omega, by omega, ?_⟩
  have h3 : s.data.toList.getD k 0 = s[k]'hk := by rw [List.getD_eq_getElem?_getD, List.getElem?_eq_getElem hl, Option.getD_some, wd_byte hk hl]
  unfold letS
  rw [Int.toNat_natCast, h3]
theorem IntsAt.news {w : World} {g off n cp : Nat} {zs : List Int} (h : IntsAt w (.slice (some ⟨g, off, none⟩) n cp) zs) : ∀ j u, (ints zs)[j]? = some u → w.cell? ((⟨g, off, none⟩ : Addr).add j) = some u := by
  intro j u hj
  obtain ⟨a, c, h1, _, _, h4⟩ := h
  injection h1 with e1 _ _
  rcases h4 with rfl | ⟨g', off', h5, h6⟩
  · simp [ints] at hj
  · rw [← e1] at h5
    injection h5 with e
    injection e with e2 e3 _
    subst e2 e3
    have hjl : j < zs.length := by
      have := (List.getElem?_eq_some_iff.1 hj).1
      rw [ints_length] at this; exact this
    rw [Addr.add_lit, h6 j hjl]
    simp only [ints, List.getElem?_map, List.getElem?_eq_getElem hjl, Option.map_some] at hj
    rw [← hj, List.getD_eq_getElem?_getD, List.getElem?_eq_getElem hjl, Option.getD_some]
theorem IntsAt.someAddr {w : World} {v : Value} {zs : List Int} (h : IntsAt w v zs) (hne : 1 ≤ zs.length) : ∃ g off c, v = .slice (some ⟨g, off, none⟩) zs.length c := by
  obtain ⟨a, c, h1, _, _, h4⟩ := h
  rcases h4 with rfl | ⟨g, off, rfl, _⟩
  · simp at hne
  · exact ⟨g, off, c, h1⟩
theorem OwnInts.addAll' {w : World} {base N : Nat} {v : Value} {xs ys : List Int} (h : w.ownsRow base 3 1 v N (ints xs ++ ints ys)) (hN : N = xs.length + ys.length) : OwnInts w base v (xs ++ ys) := by
  subst hN
  unfold OwnInts
  rw [show ints (xs ++ ys) = ints xs ++ ints ys from by simp [ints], List.length_append]
  exact h
theorem ints_oneCell' : ∀ (zs : List Int), ∀ u ∈ ints zs, u.oneCell' = true := by
  intro zs u hu
  simp [ints] at hu
  obtain ⟨z, _, rfl⟩ := hu
  rfl

theorem TableAt.someAddr {w : World} {a : Option Addr} {n cp : Nat} {T : List PRule} (h : TableAt w (.slice a n cp) T) (hne : 0 < T.length) : ∃ g off, a = some ⟨g, off, none⟩ := by
  obtain ⟨a', c, h1, _, _, h4⟩ := h
  injection h1 with e1 _ _
  rcases h4 with rfl | ⟨g, off, h5, _⟩
  · simp at hne
  · exact ⟨g, off, e1.trans h5⟩

theorem i_letterNumber_s (c k : Nat) (w : World) (hk : k < 26) (hc : c = 97 + k) :
    Calls Try.prog 62 #[.int .u8 c] w fun e w' => e = .returned (.int .i64 k) ∧ w = w' := by
  have HC : Hid (decide (65 ≤ c ∧ c ≤ 90) = false) := decide_eq_false (by omega)
  have hu1 : IntKind.u8.wrap ((c : Int) - 97) = (k : Int) := by rw [IntWalk.u8_in _ (by omega)]; omega
  have hu2 : IntKind.i64.wrap (k : Int) = k := IntWalk.i64_in _ (by omega)
  have hu3 : ((c : Int) - 97) = (k : Int) := by omega
  clear hc
  go_enter Try.func62, Try.ntmps62
  go_wp2_with (go_at_call 77; refine (i_isCapital_b _ false _ HC).mono ?_; rintro e w' ⟨rfl, rfl⟩)
  go_ret
  exact ⟨rfl, rfl⟩
theorem s_lowerCell_s (c k : Nat) (v : Int) (w : World) (hk : k < 26) (hc : c = 97 + k) (hv : Hid (letL.getD k 0 = v)) :
    Calls Try.prog 82 #[.int .u8 c] w fun e w' => e = .returned (.int .i64 v) ∧ Below w.heap.size w w' := by
  have HC : Hid (decide (65 ≤ c ∧ c ≤ 90) = false) := decide_eq_false (by omega)
  have hu1 : IntKind.u8.wrap ((c : Int) - 97) = (k : Int) := by rw [IntWalk.u8_in _ (by omega)]; omega
  have hu2 : IntKind.i64.wrap (k : Int) = k := IntWalk.i64_in _ (by omega)
  have hu3 : ((c : Int) - 97) = (k : Int) := by omega
  clear hc
  go_enter Try.func82, Try.ntmps82
  go_wp2_with (first | (go_at_call 87; refine (s_isUpper_b _ false _ HC).mono ?_; rintro e w' ⟨rfl, rfl⟩) | (go_at_call 88; refine (s_letterCell_at k v _ hk hv).mono ?_; rintro e w2 ⟨rfl, hb2⟩))
  go_ret
  exact ⟨rfl, hb2⟩

set_option maxRecDepth 5000 in
set_option maxHeartbeats 4000000 in
theorem i_piecesCells (w : World) (v u : Value) (T : List PRule) (s : ByteArray) (P : List PPiece) (hx : TableAt w v T) (hT : Hid (ValidTb T)) (hW : Hid (WordB 16 s.data.toList)) (hy : PiecesAt w u P) (hp : Hid (PvUp T s P P.length)) :
    Calls Try.prog 50 #[v, .string s, u] w fun e w' => ListMade (pcsL T s P) w e w' := by
  obtain ⟨i0, hi, hz0, hz1, hz2⟩ := info_parts infoInt
  have HX := Lib.hid hx
  obtain ⟨ta, tc, rfl, hxx⟩ := hx
  clear hxx
  obtain ⟨a, cp, rfl, x1, x2, x3⟩ := hy
  obtain ⟨n, hn⟩ : ∃ n, P.length = n := ⟨_, rfl⟩
  rw [hn] at x1 x3 hp ⊢
  have hsl : s.size ≤ 16 := by have := hW.out.2.1; rw [wd_size] at this; exact this
  have hn16 : n ≤ 16 := by have := endAt_ge hT.out.2.1 n hp.out; have := endAt_bd hp.out hT.out.2.1; omega
  have HN := Lib.hid hn
  clear hn
  obtain ⟨tn, htn⟩ : ∃ tn, T.length = tn := ⟨_, rfl⟩
  rw [htn] at HX ⊢
  have HTN := Lib.hid htn
  clear htn
  go_enter Try.func50, Try.ntmps50
  go_wp2
  go_loopw [7, 12] (fun o i wr => ∃ k : Nat, k ≤ n ∧ i = .int .i64 k ∧ OwnInts wr w.heap.size o (pcsTo T s P k) ∧ Below w.heap.size w wr) (fun _ i _ => n - (intOf i).toNat)
  case atStart => exact ⟨0, Nat.zero_le _, rfl, OwnInts.nil _ _, Below.refl _ _⟩
  case round =>
    obtain ⟨k, hk, rfl, hO, hb1⟩ := hrel
    have hsz := hb1.size
    by_cases hlt : k < n
    · rcases x3 with rfl | ⟨g, off, rfl, x3⟩
      · exact absurd HN.out (by simp; omega)
      obtain ⟨q, hq⟩ : ∃ q, P.getD k noP = q := ⟨_, rfl⟩
      have hra := x3 k hlt
      have hpk := (hp.out k hlt).2
      have hle := pcsTo_len hT.out.2.1 k (fun i hi => hp.out i (by omega))
      rw [hq] at hra hpk
      have HQ := Lib.hid hq
      clear hq x3
      obtain ⟨r, f, t⟩ := q
      obtain ⟨c0, c1, c2⟩ := hra
      simp only at c0 c1 c2
      have c0 := (hb1.cell (World.block_lt_of_cell? w _ c0)).trans c0
      have c1 := (hb1.cell (World.block_lt_of_cell? w _ c1)).trans c1
      have c2 := (hb1.cell (World.block_lt_of_cell? w _ c2)).trans c2
      have hBW := hb1.alloc hsz (.cells #[.int .i64 r, .int .i64 f, .int .i64 t] 67)
      have hOW := hO.alloc (.cells #[.int .i64 r, .int .i64 f, .int .i64 t] 67)
      have hO' : OwnInts (wr.alloc (.cells #[.int .i64 r, .int .i64 f, .int .i64 t] 67)) w.heap.size _ _ := hOW
      have p0 : (wr.alloc (.cells #[.int .i64 r, .int .i64 f, .int .i64 t] 67)).cell? ⟨wr.heap.size, 0, none⟩ = some (.int .i64 r) := by rw [cell_of_row _ wr.heap.size 0 _ _ _ (heap_alloc_new wr _)]; rfl
      have p1 : (wr.alloc (.cells #[.int .i64 r, .int .i64 f, .int .i64 t] 67)).cell? ⟨wr.heap.size, 1, none⟩ = some (.int .i64 f) := by rw [cell_of_row _ wr.heap.size 1 _ _ _ (heap_alloc_new wr _)]; rfl
      have hszW := hBW.size
      clear hOW
      obtain ⟨L, hL⟩ : ∃ L, pcsTo T s P k = L := ⟨_, rfl⟩
      have HLL := Lib.hid hL
      rw [hL] at hO' hle
      clear hL hO
      obtain ⟨a3, n3, c3, ho3⟩ := hO'.isSlice'
      subst ho3
      rcases hpk.2.2 with ⟨h3, h4⟩ | ⟨h3, h4, h5, h6⟩
      · simp only at h3
        subst h3
        obtain ⟨m, rfl⟩ : ∃ m : Nat, f = m := ⟨f.toNat, by have := hpk.1; simp only at this; omega⟩
        have hms : m < s.size := by have := hpk.2.1; simp only at this; omega
        obtain ⟨j, hj, hc, hlet⟩ := small_at hW.out hms
        obtain ⟨z, hz⟩ : ∃ z, letL.getD j 0 = z := ⟨_, rfl⟩
        have HZ := Lib.hid hz
        have HL : Hid (pcsTo T s P (k + 1) = L ++ [z]) := by
          show pcsTo T s P k ++ pcC T s (P.getD k noP) = _
          rw [HQ.out, HLL.out, pcC, if_pos rfl]
          simp only
          rw [hlet, hz]
        have b1 : (0 : Int) ≤ (m : Int) := by omega
        have b2 : (m : Int) < (s.size : Int) := by omega
        have HC := Lib.hid hc
        clear hz hlet h4 hpk hc
        go_wp2_with fail
        generalize wr.alloc (.cells #[.int .i64 (-1), .int .i64 (m : Int), .int .i64 t] 67) = W1 at hBW hO' p0 p1 hszW ⊢
        clear c0 c1 c2
        refine (i_letterNumber_s _ j _ hj HC.out).mono ?_
        rintro e w' ⟨rfl, rfl⟩
        go_wp2_with fail
        refine (i_letterCell_at j z _ hj HZ).mono ?_
        rintro e w' ⟨rfl, rfl⟩
        go_wp2_with (at_builtin; refine wpList_append_own _ rfl _ _ 23 rfl w.heap.size 3 i0 (.int .i64 0) 1 8 Try.underlying23 hi hz0 hz1 hz2 rfl (by decide) _ _ _ rfl (hO'.alloc _) ⟨W1.heap.size, 0, none⟩ 1 1 [.int .i64 z] rfl rfl new_one one_cell (by unfold maxLen; omega) (by omega) (by simp; omega) ?_)
        intro v' w3 hown' hgrow _
        have hO3 := OwnInts.snoc hown'
        have hB3 := below_append hBW hszW hO' hgrow
        rw [← HL.out] at hO3
        have HL3 := Lib.hid hO3
        clear hown' hgrow hO' hO3 p0 p1
        go_wp2
        go_roundw
        case rel => exact ⟨k + 1, by omega, by go_num, HL3.out, hB3⟩
        case measure => simp [intOf]; omega
      · simp only at h3 h4 h5 h6
        obtain ⟨j, rfl⟩ : ∃ j : Nat, r = j := ⟨r.toNat, by omega⟩
        have hj : j < T.length := by omega
        have hj' : j < tn := by have := HTN.out; omega
        obtain ⟨gt, offt, rfl⟩ := HX.out.someAddr (by omega)
        have hra2 := (HX.out.below hBW).nth hj
        obtain ⟨rr, hrr⟩ : ∃ rr, T.getD j noR = rr := ⟨_, rfl⟩
        have hvr := hT.out.2.1 j hj
        rw [hrr] at hvr hra2
        have HRR := Lib.hid hrr
        clear hrr
        obtain ⟨rt, zs, rp⟩ := rr
        obtain ⟨g0x, ⟨uu, g1, hu⟩, g2x⟩ := hra2
        clear g0x g2x
        obtain ⟨g2, off2, cp2, rfl⟩ := hu.someAddr hvr.2.1.1
        simp only at g1 hu
        have hzl := hvr.2.1.2
        simp only at hzl
        have HL : Hid (pcsTo T s P (k + 1) = L ++ zs) := by
          show pcsTo T s P k ++ pcC T s (P.getD k noP) = _
          rw [HQ.out, HLL.out, pcC, if_neg (by simp only; omega)]
          simp only
          rw [Int.toNat_natCast, HRR.out]
        have hnews := Lib.hid hu.news
        have d7 : ((j : Int) == -1) = false := by simp
        have b1 : (0 : Int) ≤ (j : Int) := by omega
        have b2 : (j : Int) < (tn : Int) := by omega
        have hlz : Hid ((ints zs).length = zs.length * 1) := by show _ = _; rw [ints_length, Nat.mul_one]
        clear h5 h6 hvr hpk hu p0 p1
        go_wp2_with (at_builtin; refine wpList_append_own _ rfl _ _ 23 rfl w.heap.size 3 i0 (.int .i64 0) 1 8 Try.underlying23 hi hz0 hz1 hz2 rfl (by decide) _ _ _ rfl hO' ⟨g2, off2, none⟩ zs.length cp2 (ints zs) rfl hlz.out hnews.out (ints_oneCell' zs) (by unfold maxLen; omega) (by omega) (by first | omega | (simp; omega)) ?_)
        intro v' w3 hown' hgrow _
        have hO3 := OwnInts.addAll' hown' rfl
        have hB3 : Below w.heap.size w w3 := hBW.grown hgrow hszW (fun q hq => (hO'.lt q hq).1)
        rw [← HL.out] at hO3
        have HL3 := Lib.hid hO3
        clear hown' hgrow hO' hO3 g1 hnews
        go_wp2
        go_roundw
        case rel => exact ⟨k + 1, by omega, by go_num, HL3.out, hB3⟩
        case measure => simp [intOf]; omega
    · go_wp2
      go_ret
      obtain rfl : k = n := by omega
      exact ⟨_, rfl, by rw [pcsL, HN.out]; exact hO, hb1, hO.isSlice'⟩
end Go.Proofs.Ythojahknocageaa


/- The cells of pieces, in the program and in its model. -/
namespace Go.Proofs.Ythojahknocageaa
open Go.RowKit

/-- a list of at least one cell that reads -/
def CellsOut (L : List Int) (w : World) (e : Ending) (w' : World) : Prop := ∃ g off c, e = .returned (.slice (some ⟨g, off, none⟩) L.length c) ∧ IntsAt w' (.slice (some ⟨g, off, none⟩) L.length c) L ∧ Below w.heap.size w w'
theorem IntsAt.one' (w : World) (z : Int) (t : TypeId) : IntsAt (w.alloc (.cells #[.int .i64 z] t)) (.slice (some ⟨w.heap.size, 0, none⟩) 1 1) [z] := by
  refine ⟨_, 1, rfl, by simp, by omega, .inr ⟨w.heap.size, 0, rfl, fun i hi => ?_⟩⟩
  have hi' : i = 0 := by simpa using hi
  subst hi'
  rw [cell_of_row _ w.heap.size (0 + 0) _ _ _ (heap_alloc_new w _)]; rfl

set_option maxRecDepth 5000 in
set_option maxHeartbeats 2000000 in
theorem s_pieceCells (w : World) (v : Value) (T : List PRule) (s : ByteArray) (r f t : Int) (hx : TableAt w v T) (hT : Hid (ValidTb T)) (hW : Hid (WordB 16 s.data.toList)) (hp : Hid (PcOk T s ⟨r, f, t⟩)) :
    Calls Try.prog 69 #[v, .string s, .agg #[.int .i64 r, .int .i64 f, .int .i64 t]] w fun e w' => CellsOut (pcC T s ⟨r, f, t⟩) w e w' := by
  have HX := Lib.hid hx
  obtain ⟨ta, tc, rfl, hxx⟩ := hx
  clear hxx
  obtain ⟨tn, htn⟩ : ∃ tn, T.length = tn := ⟨_, rfl⟩
  rw [htn] at HX ⊢
  have HTN := Lib.hid htn
  clear htn
  have hB1 : Below w.heap.size w (w.alloc (.cells #[.int .i64 r, .int .i64 f, .int .i64 t] 67)) := (Below.refl _ _).alloc (Nat.le_refl _) _
  rcases hp.out.2.2 with ⟨h3, h4⟩ | ⟨h3, h4, h5, h6⟩
  · simp only at h3
    subst h3
    obtain ⟨m, rfl⟩ : ∃ m : Nat, f = m := ⟨f.toNat, by have := hp.out.1; simp only at this; omega⟩
    have hms : m < s.size := by have := hp.out.2.1; simp only at this; omega
    obtain ⟨j, hj, hc, hlet⟩ := small_at hW.out hms
    obtain ⟨z, hz⟩ : ∃ z, letL.getD j 0 = z := ⟨_, rfl⟩
    have HZ := Lib.hid hz
    have HL : Hid (pcC T s ⟨-1, (m : Int), t⟩ = [z]) := by
      show _ = _
      rw [pcC, if_pos rfl]
      simp only
      rw [hlet, hz]
    have b1 : (0 : Int) ≤ (m : Int) := by omega
    have b2 : (m : Int) < (s.size : Int) := by omega
    have HC := Lib.hid hc
    clear hz hlet h4 hc
    rw [HL.out]
    go_enter Try.func69, Try.ntmps69
    go_wp2_with fail
    refine (s_lowerCell_s _ j z _ hj HC.out HZ).mono ?_
    rintro e w2 ⟨rfl, hb2⟩
    have hB2 := below_next hB1 hb2
    have hB3 := hB2.alloc hB2.size (.cells #[.int .i64 z] 3)
    have hI := IntsAt.one' w2 z 3
    go_wp2
    go_ret
    exact ⟨w2.heap.size, 0, 1, rfl, hI, hB3⟩
  · simp only at h3 h4 h5 h6
    obtain ⟨j, rfl⟩ : ∃ j : Nat, r = j := ⟨r.toNat, by omega⟩
    have hj : j < T.length := by omega
    have hj' : j < tn := by have := HTN.out; omega
    obtain ⟨gt, offt, rfl⟩ := HX.out.someAddr (by omega)
    have hra2 := (HX.out.below hB1).nth hj
    obtain ⟨rr, hrr⟩ : ∃ rr, T.getD j noR = rr := ⟨_, rfl⟩
    have hvr := hT.out.2.1 j hj
    rw [hrr] at hvr hra2
    have HRR := Lib.hid hrr
    clear hrr
    obtain ⟨rt, zs, rp⟩ := rr
    obtain ⟨g0x, ⟨uu, g1, hu⟩, g2x⟩ := hra2
    clear g0x g2x
    obtain ⟨g2, off2, cp2, rfl⟩ := hu.someAddr hvr.2.1.1
    simp only at g1 hu
    have HL : Hid (pcC T s ⟨(j : Int), f, t⟩ = zs) := by
      show _ = _
      rw [pcC, if_neg (by simp only; omega)]
      simp only
      rw [Int.toNat_natCast, HRR.out]
    have HU := Lib.hid hu
    have d7 : decide ((j : Int) < 0) = false := decide_eq_false (by omega)
    have b1 : (0 : Int) ≤ (j : Int) := by omega
    have b2 : (j : Int) < (tn : Int) := by omega
    clear h5 h6 hvr hu
    rw [HL.out]
    go_enter Try.func69, Try.ntmps69
    go_wp2
    go_ret
    exact ⟨g2, off2, cp2, rfl, HU.out, hB1⟩

set_option maxHeartbeats 4000000 in
theorem s_cellsOf (w : World) (v u : Value) (T : List PRule) (s : ByteArray) (P : List PPiece) (hx : TableAt w v T) (hT : Hid (ValidTb T)) (hW : Hid (WordB 16 s.data.toList)) (hy : PiecesAt w u P) (hp : Hid (PvUp T s P P.length)) :
    Calls Try.prog 54 #[v, .string s, u] w fun e w' => ListMade (pcsL T s P) w e w' := by
  obtain ⟨i0, hi, hz0, hz1, hz2⟩ := info_parts infoInt
  have HX := Lib.hid hx
  obtain ⟨ta, tc, rfl, hxx⟩ := hx
  clear hxx
  obtain ⟨a, cp, rfl, x1, x2, x3⟩ := hy
  obtain ⟨n, hn⟩ : ∃ n, P.length = n := ⟨_, rfl⟩
  rw [hn] at x1 x3 hp ⊢
  have hsl : s.size ≤ 16 := by have := hW.out.2.1; rw [wd_size] at this; exact this
  have hn16 : n ≤ 16 := by have := endAt_ge hT.out.2.1 n hp.out; have := endAt_bd hp.out hT.out.2.1; omega
  have HN := Lib.hid hn
  clear hn
  have hO1 : OwnInts (w.alloc (.cells #[] 3)) w.heap.size (.slice (some ⟨w.heap.size, 0, none⟩) 0 0) [] := OwnInts.made w w.heap.size (Nat.le_refl _)
  have hB1 : Below w.heap.size w (w.alloc (.cells #[] 3)) := (Below.refl _ _).alloc (Nat.le_refl _) _
  go_enter Try.func54, Try.ntmps54
  go_wp2
  go_loopw [7, 8] (fun o i wr => ∃ k : Nat, k ≤ n ∧ i = .int .i64 k ∧ OwnInts wr w.heap.size o (pcsTo T s P k) ∧ Below w.heap.size w wr) (fun _ i _ => n - (intOf i).toNat)
  case atStart => exact ⟨0, Nat.zero_le _, rfl, hO1, hB1⟩
  case round =>
    clear hO1 hB1
    obtain ⟨k, hk, rfl, hO, hb1⟩ := hrel
    have hsz := hb1.size
    by_cases hlt : k < n
    · rcases x3 with rfl | ⟨g, off, rfl, x3⟩
      · exact absurd HN.out (by simp; omega)
      obtain ⟨q, hq⟩ : ∃ q, P.getD k noP = q := ⟨_, rfl⟩
      have hra := x3 k hlt
      have hpk := (hp.out k hlt).2
      have hle := pcsTo_len hT.out.2.1 k (fun i hi => hp.out i (by omega))
      rw [hq] at hra hpk
      have HQ := Lib.hid hq
      clear hq x3
      obtain ⟨r, f, t⟩ := q
      have HPK := Lib.hid hpk
      have hcl := pcC_len hpk hT.out.2.1
      obtain ⟨C, hC⟩ : ∃ C, pcC T s ⟨r, f, t⟩ = C := ⟨_, rfl⟩
      rw [hC] at hcl
      obtain ⟨L, hL⟩ : ∃ L, pcsTo T s P k = L := ⟨_, rfl⟩
      have HL : Hid (pcsTo T s P (k + 1) = L ++ C) := by
        show pcsTo T s P k ++ pcC T s (P.getD k noP) = _
        rw [HQ.out, hL, hC]
      have HC := Lib.hid hC
      rw [hL] at hO hle
      obtain ⟨c0, c1, c2⟩ := hra
      simp only at c0 c1 c2
      have c0 := (hb1.cell (World.block_lt_of_cell? w _ c0)).trans c0
      have c1 := (hb1.cell (World.block_lt_of_cell? w _ c1)).trans c1
      have c2 := (hb1.cell (World.block_lt_of_cell? w _ c2)).trans c2
      clear hL hC hpk
      obtain ⟨a3, n3, c3, ho3⟩ := hO.isSlice'
      subst ho3
      go_wp2_with fail
      have hsp := s_pieceCells wr _ T s r f t (HX.out.below hb1) hT hW HPK
      rw [HC.out] at hsp
      refine hsp.mono ?_
      rintro e w2 ⟨g2, off2, cc, rfl, hI, hb2⟩
      have hnews := Lib.hid hI.news
      have hlz : Hid ((ints C).length = C.length * 1) := by show _ = _; rw [ints_length, Nat.mul_one]
      have hB2 := hb1.trans (hb2.mono hsz)
      have hs2 := hB2.size
      have hO2 := hO.below hb2
      clear hO hI c0 c1 c2 hsp
      go_wp2_with (at_builtin; refine wpList_append_own _ rfl _ _ 23 rfl w.heap.size 3 i0 (.int .i64 0) 1 8 Try.underlying23 hi hz0 hz1 hz2 rfl (by decide) _ _ _ rfl hO2 ⟨g2, off2, none⟩ C.length cc (ints C) rfl hlz.out hnews.out (ints_oneCell' C) (by unfold maxLen; omega) (by omega) (by omega) ?_)
      intro v' w3 hown' hgrow _
      have hO3 := OwnInts.addAll' hown' rfl
      have hB3 : Below w.heap.size w w3 := hB2.grown hgrow hs2 (fun q hq => (hO2.lt q hq).1)
      rw [← HL.out] at hO3
      have HL3 := Lib.hid hO3
      clear hown' hgrow hO2 hO3 hnews
      go_wp2
      go_roundw
      case rel => exact ⟨k + 1, by omega, by go_num, HL3.out, hB3⟩
      case measure => simp [intOf]; omega
    · go_wp2
      go_ret
      obtain rfl : k = n := by omega
      exact ⟨_, rfl, by rw [pcsL, HN.out]; exact hO, hb1, hO.isSlice'⟩
end Go.Proofs.Ythojahknocageaa

