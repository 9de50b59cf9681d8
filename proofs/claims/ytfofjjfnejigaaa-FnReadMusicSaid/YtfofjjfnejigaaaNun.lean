
/- The runs of both readers of music, over the cells of notes. -/
import Derived.Test.YtfofjjfnejigaaaNum
namespace Go.Proofs.Ytfofjjfnejigaaa
open Go.RowKit

theorem pitch_one {l p q : Int} (h : ¬ NeedM l p) (k : ¬ NeedM l q) (e : p % 7 = q % 7) : p = q := by
  unfold NeedM at h k
  omega
theorem musTo_pre (P : List PNote) (j : Nat) : ∀ n, j ≤ n → ∃ R, musTo P n = musTo P j ++ R := by
  intro n
  induction n with
  | zero => intro h; obtain rfl : j = 0 := by omega
            exact ⟨[], by simp⟩
  | succ n ih =>
    intro h
    by_cases e : j = n + 1
    · subst e; exact ⟨[], by simp⟩
    · obtain ⟨R, hR⟩ := ih (by omega)
      exact ⟨R ++ musC (lastP P n) (P.getD n noN), by simp only [musTo]; rw [hR, List.append_assoc]⟩
theorem getD_mid (A B R : List Int) (i : Nat) (h : i < B.length) : ((A ++ B) ++ R).getD (A.length + i) 0 = B.getD i 0 := by
  rw [List.getD_eq_getElem?_getD, List.getD_eq_getElem?_getD, List.getElem?_append_left (by rw [List.length_append]; omega), List.getElem?_append_right (by omega), show A.length + i - A.length = i from by omega]
/-- how the cells go on behind the first j notes -/
theorem cell_next {P : List PNote} {n : Nat} {x : PNote} {j : Nat} (hj : j < n) (hx : P.getD j noN = x) (hok : NtOk x) :
    (x.p = -1 ∧ (musTo P n).getD (musTo P j).length 0 = restC x.v ∧ (musTo P (j + 1)).length = (musTo P j).length + 1 ∧ lastP P (j + 1) = lastP P j) ∨
    (0 ≤ x.p ∧ NeedM (lastP P j) x.p ∧ (musTo P n).getD (musTo P j).length 0 = octL.getD (x.p / 7).toNat 0 ∧ (musTo P n).getD ((musTo P j).length + 1) 0 = candC (x.p % 7) x.v ∧ (musTo P (j + 1)).length = (musTo P j).length + 2 ∧ lastP P (j + 1) = x.p) ∨
    (0 ≤ x.p ∧ ¬ NeedM (lastP P j) x.p ∧ (musTo P n).getD (musTo P j).length 0 = candC (x.p % 7) x.v ∧ (musTo P (j + 1)).length = (musTo P j).length + 1 ∧ lastP P (j + 1) = x.p) := by
  obtain ⟨R, hR⟩ := musTo_pre P (j + 1) n (by omega)
  have h1 : musTo P (j + 1) = musTo P j ++ musC (lastP P j) x := by simp only [musTo]; rw [hx]
  rw [h1] at hR
  have hcell : ∀ i, i < (musC (lastP P j) x).length → (musTo P n).getD ((musTo P j).length + i) 0 = (musC (lastP P j) x).getD i 0 := fun i hi => by rw [hR]; exact getD_mid _ _ _ i hi
  have hl : lastP P (j + 1) = if x.p = -1 then lastP P j else x.p := by simp only [lastP]; rw [hx]
  obtain ⟨p, v⟩ := x
  obtain ⟨q1, q2, q3, q4⟩ := hok
  simp only at q1 q2 q3 q4 hl
  by_cases hp : p = -1
  · subst hp
    have hm : musC (lastP P j) ⟨-1, v⟩ = [restC v] := by unfold musC; rw [if_pos rfl, noteC_rest]
    rw [hm] at hcell h1
    refine .inl ⟨rfl, ?_, by rw [h1]; simp, by rw [hl, if_pos rfl]⟩
    have := hcell 0 (by simp)
    rw [Nat.add_zero] at this
    exact this
  · have hc : noteC ⟨p, v⟩ = candC (p % 7) v := noteC_cand hp
    by_cases hn : NeedM (lastP P j) p
    · have hm : musC (lastP P j) ⟨p, v⟩ = [octL.getD (p / 7).toNat 0, candC (p % 7) v] := by
        unfold musC
        rw [if_neg (show ¬ (p = -1) from hp), hc, markC, if_pos hn]; rfl
      rw [hm] at hcell h1
      refine .inr (.inl ⟨by simp only; omega, hn, ?_, ?_, by rw [h1]; simp, by rw [hl, if_neg hp]⟩)
      · have := hcell 0 (by simp)
        rw [Nat.add_zero] at this
        exact this
      · exact hcell 1 (by simp)
    · have hm : musC (lastP P j) ⟨p, v⟩ = [candC (p % 7) v] := by
        unfold musC
        rw [if_neg (show ¬ (p = -1) from hp), hc, markC, if_neg hn]; rfl
      rw [hm] at hcell h1
      refine .inr (.inr ⟨by simp only; omega, hn, ?_, by rw [h1]; simp, by rw [hl, if_neg hp]⟩)
      have := hcell 0 (by simp)
      rw [Nat.add_zero] at this
      exact this
/-- the run of the program: how many cells, the notes, the last pitch, the octave of a mark -/
inductive RunI (cells : List Int) : Nat → List PNote → Int → Int → Prop
  | zero : RunI cells 0 [] (-1) (-1)
  | mark {k P l o o'} : RunI cells k P l o → k < cells.length → OctIs (cells.getD k 0) o' → 0 ≤ o' → RunI cells (k + 1) P l o'
  | note {k P l o x} : RunI cells k P l o → k < cells.length → cells.getD k 0 ∉ octL → NoIs (cells.getD k 0) o l x true → RunI cells (k + 1) (P ++ [x]) (if x.p = -1 then l else x.p) (-1)
/-- the run of the model: how many cells, the notes, the last pitch -/
inductive RunS (cells : List Int) : Nat → List PNote → Int → Prop
  | zero : RunS cells 0 [] (-1)
  | plain {k P l x} : RunS cells k P l → k < cells.length → (cells.getD k 0 ∉ octL ∨ ¬ k + 1 < cells.length) → NrIs (cells.getD k 0) l x true → RunS cells (k + 1) (P ++ [x]) (if 0 ≤ x.p then x.p else l)
  | marked {k P l o x} : RunS cells k P l → k + 1 < cells.length → OctIs (cells.getD k 0) o → 0 ≤ o → NmIs (cells.getD (k + 1) 0) o x true → RunS cells (k + 2) (P ++ [x]) (if 0 ≤ x.p then x.p else l)
theorem octIs_in {c r : Int} (h : OctIs c r) (h0 : 0 ≤ r) : c ∈ octL ∧ r ≤ 6 ∧ octL.getD r.toNat 0 = c := by
  rcases h with ⟨a, b, d⟩ | ⟨a, _⟩
  · exact ⟨by rw [← d]; exact octL_in a b, b, d⟩
  · omega
theorem take_snoc {P : List PNote} {j : Nat} {x : PNote} (h : j < P.length) (e : P.getD j noN = x) : P.take j ++ [x] = P.take (j + 1) := by
  rw [List.take_add_one, List.getElem?_eq_getElem h]
  rw [List.getD_eq_getElem?_getD, List.getElem?_eq_getElem h] at e
  rw [← e]; rfl
/-- what the program's reader has read of the cells of notes -/
def AtI (P : List PNote) (k : Nat) (Q : List PNote) (l o : Int) : Prop :=
  (∃ j, j ≤ P.length ∧ k = (musTo P j).length ∧ Q = P.take j ∧ l = lastP P j ∧ o = -1) ∨
  (∃ j, j < P.length ∧ k = (musTo P j).length + 1 ∧ Q = P.take j ∧ l = lastP P j ∧ 0 ≤ (P.getD j noN).p ∧ NeedM (lastP P j) (P.getD j noN).p ∧ o = (P.getD j noN).p / 7)
theorem len_lt {P : List PNote} {j : Nat} (hj : j ≤ P.length) (h : (musTo P j).length < (musTo P P.length).length) : j < P.length := by
  rcases Nat.lt_or_eq_of_le hj with h1 | h1
  · exact h1
  · rw [h1] at h; omega
/-- a note that is read behind the first j notes is the next one -/
theorem note_step_I {P : List PNote} (hok : NtsOk P) {k : Nat} {Q : List PNote} {l o : Int} {x : PNote} {ok : Bool} (hA : AtI P k Q l o) (hk : k < (musTo P P.length).length) (hno : (musTo P P.length).getD k 0 ∉ octL) (hx : NoIs ((musTo P P.length).getD k 0) o l x ok) :
    ok = true ∧ AtI P (k + 1) (Q ++ [x]) (if x.p = -1 then l else x.p) (-1) := by
  rcases hA with ⟨j, hj, rfl, rfl, rfl, rfl⟩ | ⟨j, hj, rfl, rfl, rfl, hp0, hnd, rfl⟩
  · have hjn := len_lt hj hk
    obtain ⟨y, hy⟩ : ∃ y, P.getD j noN = y := ⟨_, rfl⟩
    have hyo := hok.2 j hjn
    rw [hy] at hyo
    have hv : V4 y.v := ⟨hyo.2.2.1, hyo.2.2.2⟩
    have fin : ok = true → x = y → (musTo P (j + 1)).length = (musTo P j).length + 1 → lastP P (j + 1) = (if y.p = -1 then lastP P j else y.p) → ok = true ∧ AtI P ((musTo P j).length + 1) (P.take j ++ [x]) (if x.p = -1 then lastP P j else x.p) (-1) := fun h1 h2 h3 h4 => by
      subst h2
      exact ⟨h1, .inl ⟨j + 1, by omega, h3.symm, take_snoc hjn hy, h4.symm, rfl⟩⟩
    rcases cell_next hjn hy hyo with ⟨c1, c2, c3, c4⟩ | ⟨c1, c2, c3, c4, c5, c6⟩ | ⟨c1, c2, c3, c4, c5⟩
    · rw [c2] at hx
      rcases hx with ⟨v, h1, h2, h3, h4⟩ | ⟨v, s, p, h1, h2, h3, _⟩ | ⟨h1, _⟩
      · have := restC_inj h1 hv h2
        subst this
        refine fin h4 ?_ c3 (by rw [c4, if_pos c1])
        rw [h3]
        obtain ⟨yp, yv⟩ := y
        simp only at c1
        rw [c1]
      · exact absurd h3 (candC_rest h2 h1 hv)
      · exact absurd rfl (h1 y.v hv).1
    · rw [c3] at hno
      exact absurd (octL_in (by omega) (by have := hyo.2.1; omega)) hno
    · rw [c3] at hx
      have hs : S7 (y.p % 7) := ⟨by omega, by omega⟩
      rcases hx with ⟨v, h1, h2, h3, h4⟩ | ⟨v, s, p, h1, h2, h3, h4, h5, h6⟩ | ⟨h1, _⟩
      · exact absurd h2.symm (candC_rest hs hv h1)
      · obtain ⟨rfl, rfl⟩ := candC_inj h2 h1 hs hv h3
        rcases h4 with ⟨a, _⟩ | ⟨_, a, b, d, e⟩ | ⟨_, a, b⟩
        · omega
        · have := pitch_one e c2 d
          subst this
          exact fin (h6.2 ⟨a, b⟩) h5 c4 (by rw [c5, if_neg (by omega)])
        · have hy48 := hyo.2.1
          have := b y.p.toNat (by omega) (by rw [Int.toNat_of_nonneg c1])
          rw [Int.toNat_of_nonneg c1] at this
          exact absurd this c2
      · exact absurd rfl ((h1 y.v hv).2 _ hs)
  · obtain ⟨y, hy⟩ : ∃ y, P.getD j noN = y := ⟨_, rfl⟩
    rw [hy] at hp0 hnd hx
    have hyo := hok.2 j hj
    rw [hy] at hyo
    have hv : V4 y.v := ⟨hyo.2.2.1, hyo.2.2.2⟩
    have hs : S7 (y.p % 7) := ⟨by omega, by omega⟩
    rcases cell_next hj hy hyo with ⟨c1, _⟩ | ⟨c1, c2, c3, c4, c5, c6⟩ | ⟨_, c2, _⟩
    · omega
    · rw [c4] at hx
      rcases hx with ⟨v, h1, h2, h3, h4⟩ | ⟨v, s, p, h1, h2, h3, h4, h5, h6⟩ | ⟨h1, _⟩
      · exact absurd h2.symm (candC_rest hs hv h1)
      · obtain ⟨rfl, rfl⟩ := candC_inj h2 h1 hs hv h3
        rcases h4 with ⟨a, b⟩ | ⟨a, _⟩ | ⟨a, _⟩
        · have hpe : p = y.p := by omega
          subst hpe
          have hok' : ok = true := h6.2 ⟨hp0, hyo.2.1⟩
          subst h5
          exact ⟨hok', .inl ⟨j + 1, by omega, by rw [c5], take_snoc hj (by rw [hy]), by rw [c6]; simp only; rw [if_neg (by omega)], rfl⟩⟩
        · omega
        · omega
      · exact absurd rfl ((h1 y.v hv).2 _ hs)
    · exact absurd hnd c2
theorem runI_at {P : List PNote} (hok : NtsOk P) : ∀ {k Q l o}, RunI (musTo P P.length) k Q l o → AtI P k Q l o := by
  intro k Q l o h
  induction h with
  | zero => exact .inl ⟨0, Nat.zero_le _, rfl, rfl, rfl, rfl⟩
  | @mark k Q l o o' h hk h1 h2 ih =>
    obtain ⟨i1, i2, i3⟩ := octIs_in h1 h2
    rcases ih with ⟨j, hj, rfl, rfl, rfl, rfl⟩ | ⟨j, hj, rfl, rfl, rfl, hp0, hnd, rfl⟩
    · have hjn := len_lt hj hk
      have hyo := hok.2 j hjn
      have hv : V4 (P.getD j noN).v := ⟨hyo.2.2.1, hyo.2.2.2⟩
      rcases cell_next hjn rfl hyo with ⟨c1, c2, c3, c4⟩ | ⟨c1, c2, c3, c4, c5, c6⟩ | ⟨c1, c2, c3, c4, c5⟩
      · rw [c2] at i1; exact absurd i1 (restC_oct hv)
      · refine .inr ⟨j, hjn, rfl, rfl, rfl, c1, c2, ?_⟩
        rw [c3] at i3
        exact octC_inj h2 i2 (by omega) (by have := hyo.2.1; omega) i3
      · rw [c3] at i1; exact absurd i1 (candC_oct ⟨by omega, by omega⟩ hv)
    · have hyo := hok.2 j hj
      have hv : V4 (P.getD j noN).v := ⟨hyo.2.2.1, hyo.2.2.2⟩
      rcases cell_next hj rfl hyo with ⟨c1, _⟩ | ⟨c1, c2, c3, c4, c5, c6⟩ | ⟨_, c2, _⟩
      · omega
      · rw [c4] at i1; exact absurd i1 (candC_oct ⟨by omega, by omega⟩ hv)
      · exact absurd hnd c2
  | @note k Q l o x h hk h1 h2 ih => exact (note_step_I hok ih hk h1 h2).2
theorem at_end {P : List PNote} {Q : List PNote} {l o : Int} (hok : NtsOk P) (h : AtI P (musTo P P.length).length Q l o) : Q = P := by
  have mono : ∀ j, j < P.length → (musTo P (j + 1)).length ≤ (musTo P P.length).length := fun j hj => by
    obtain ⟨R, hR⟩ := musTo_pre P (j + 1) P.length (by omega)
    rw [hR, List.length_append]; omega
  rcases h with ⟨j, hj, hk, rfl, _, _⟩ | ⟨j, hj, hk, _, _, hp0, hnd, _⟩
  · rcases Nat.lt_or_eq_of_le hj with h1 | h1
    · have h2 := mono j h1
      rcases cell_next h1 rfl (hok.2 j h1) with ⟨_, _, c3, _⟩ | ⟨_, _, _, _, c5, _⟩ | ⟨_, _, _, c4, _⟩ <;> omega
    · rw [h1]; exact List.take_length ..
  · have h2 := mono j hj
    rcases cell_next hj rfl (hok.2 j hj) with ⟨c1, _⟩ | ⟨_, _, _, _, c5, _⟩ | ⟨_, c2, _⟩
    · omega
    · omega
    · exact absurd hnd c2
/-- what the model's reader has read of the cells of notes -/
def AtS (P : List PNote) (k : Nat) (Q : List PNote) (l : Int) : Prop := ∃ j, j ≤ P.length ∧ k = (musTo P j).length ∧ Q = P.take j ∧ l = lastP P j
theorem plain_step {P : List PNote} (hok : NtsOk P) {k : Nat} {Q : List PNote} {l : Int} {x : PNote} {ok : Bool} (hA : AtS P k Q l) (hk : k < (musTo P P.length).length) (hc : (musTo P P.length).getD k 0 ∉ octL ∨ ¬ k + 1 < (musTo P P.length).length) (hx : NrIs ((musTo P P.length).getD k 0) l x ok) :
    ok = true ∧ AtS P (k + 1) (Q ++ [x]) (if 0 ≤ x.p then x.p else l) := by
  obtain ⟨j, hj, rfl, rfl, rfl⟩ := hA
  have hjn := len_lt hj hk
  obtain ⟨y, hy⟩ : ∃ y, P.getD j noN = y := ⟨_, rfl⟩
  have hyo := hok.2 j hjn
  rw [hy] at hyo
  have hv : V4 y.v := ⟨hyo.2.2.1, hyo.2.2.2⟩
  have fin : ok = true → x = y → (musTo P (j + 1)).length = (musTo P j).length + 1 → lastP P (j + 1) = (if 0 ≤ y.p then y.p else lastP P j) → ok = true ∧ AtS P ((musTo P j).length + 1) (P.take j ++ [x]) (if 0 ≤ x.p then x.p else lastP P j) := fun h1 h2 h3 h4 => by
    subst h2
    exact ⟨h1, j + 1, by omega, h3.symm, take_snoc hjn hy, h4.symm⟩
  have mono : (musTo P (j + 1)).length ≤ (musTo P P.length).length := by
    obtain ⟨R, hR⟩ := musTo_pre P (j + 1) P.length (by omega)
    rw [hR, List.length_append]; omega
  rcases cell_next hjn hy hyo with ⟨c1, c2, c3, c4⟩ | ⟨c1, c2, c3, c4, c5, c6⟩ | ⟨c1, c2, c3, c4, c5⟩
  · rw [c2] at hx
    rcases hx with ⟨h4, ⟨v, h1, h2, h3⟩ | ⟨v, p, h1, h2, h3, _⟩⟩ | ⟨_, h1⟩
    · have := restC_inj h1 hv h2
      subst this
      refine fin h4 ?_ c3 (by rw [c4, if_neg (by omega)])
      rw [h3]
      obtain ⟨yp, yv⟩ := y
      simp only at c1
      rw [c1]
    · exact absurd h3 (candC_rest ⟨by omega, by omega⟩ h1 hv)
    · exact absurd rfl (h1 y.v hv).1
  · rcases hc with hc | hc
    · rw [c3] at hc
      exact absurd (octL_in (by omega) (by have := hyo.2.1; omega)) hc
    · omega
  · rw [c3] at hx
    have hs : S7 (y.p % 7) := ⟨by omega, by omega⟩
    rcases hx with ⟨h4, ⟨v, h1, h2, h3⟩ | ⟨v, p, h1, h2, h3, h5, h6⟩⟩ | ⟨_, h1⟩
    · exact absurd h2.symm (candC_rest hs hv h1)
    · obtain ⟨e1, rfl⟩ := candC_inj ⟨by omega, by omega⟩ h1 hs hv h3
      have := pitch_one h5 c2 e1
      subst this
      exact fin h4 h6 c4 (by rw [c5, if_pos c1])
    · exact absurd ((h1 y.v hv).2 y.p c1 hyo.2.1 rfl) c2
theorem marked_step {P : List PNote} (hok : NtsOk P) {k : Nat} {Q : List PNote} {l o : Int} {x : PNote} {ok : Bool} (hA : AtS P k Q l) (hk : k + 1 < (musTo P P.length).length) (ho : OctIs ((musTo P P.length).getD k 0) o) (h0 : 0 ≤ o) (hx : NmIs ((musTo P P.length).getD (k + 1) 0) o x ok) :
    ok = true ∧ AtS P (k + 2) (Q ++ [x]) (if 0 ≤ x.p then x.p else l) := by
  obtain ⟨j, hj, rfl, rfl, rfl⟩ := hA
  have hjn := len_lt hj (by omega)
  obtain ⟨y, hy⟩ : ∃ y, P.getD j noN = y := ⟨_, rfl⟩
  have hyo := hok.2 j hjn
  rw [hy] at hyo
  have hv : V4 y.v := ⟨hyo.2.2.1, hyo.2.2.2⟩
  obtain ⟨i1, i2, i3⟩ := octIs_in ho h0
  have hs : S7 (y.p % 7) := ⟨by omega, by omega⟩
  rcases cell_next hjn hy hyo with ⟨c1, c2, c3, c4⟩ | ⟨c1, c2, c3, c4, c5, c6⟩ | ⟨c1, c2, c3, c4, c5⟩
  · rw [c2] at i1; exact absurd i1 (restC_oct hv)
  · rw [c3] at i3
    have hoe := octC_inj h0 i2 (by omega) (by have := hyo.2.1; omega) i3
    rw [c4] at hx
    rcases hx with ⟨h4, v, p, h1, h2, h3, h5⟩ | ⟨_, h1⟩
    · obtain ⟨e1, rfl⟩ := candC_inj ⟨by omega, by omega⟩ h1 hs hv h3
      have hpe : p = y.p := by omega
      subst hpe
      subst h5
      exact ⟨h4, j + 1, by omega, by rw [c5], take_snoc hjn (by rw [hy]), by rw [c6]; simp only; rw [if_pos c1]⟩
    · exact absurd rfl (h1 y.v hv y.p (by omega) (by omega))
  · rw [c3] at i1; exact absurd i1 (candC_oct hs hv)
theorem runS_at {P : List PNote} (hok : NtsOk P) : ∀ {k Q l}, RunS (musTo P P.length) k Q l → AtS P k Q l := by
  intro k Q l h
  induction h with
  | zero => exact ⟨0, Nat.zero_le _, rfl, rfl, rfl⟩
  | plain h hk h1 h2 ih => exact (plain_step hok ih hk h1 h2).2
  | marked h hk h1 h2 h3 ih => exact (marked_step hok ih hk h1 h2 h3).2
theorem at_endS {P : List PNote} {Q : List PNote} {l : Int} (hok : NtsOk P) (h : AtS P (musTo P P.length).length Q l) : Q = P := by
  obtain ⟨j, h1, h2, h3, h4⟩ := h
  exact at_end (o := -1) hok (.inl ⟨j, h1, h2, h3, h4, rfl⟩)
/-- what ReadMusic answers -/
def RmIs (cells : List Int) (P : List PNote) (ok : Bool) : Prop :=
  (ok = true ∧ NtsOk P ∧ musTo P P.length = cells) ∨ (ok = false ∧ P = [] ∧ ¬ ∃ P', NtsOk P' ∧ musTo P' P'.length = cells)
theorem rmIs_ex (cells : List Int) : ∃ P ok, RmIs cells P ok := by
  by_cases h : ∃ P', NtsOk P' ∧ musTo P' P'.length = cells
  · obtain ⟨P, h1, h2⟩ := h; exact ⟨P, true, .inl ⟨rfl, h1, h2⟩⟩
  · exact ⟨[], false, .inr ⟨rfl, rfl, h⟩⟩
theorem RmIs.no {cells : List Int} {P : List PNote} {ok : Bool} (h : RmIs cells P ok) (n : ∀ P', NtsOk P' → musTo P' P'.length = cells → False) : ok = false ∧ P = [] := by
  rcases h with ⟨_, a, b⟩ | ⟨a, b, _⟩
  · exact absurd (n P a b) id
  · exact ⟨a, b⟩
theorem RmIs.yes {cells : List Int} {P Q : List PNote} {ok : Bool} (h : RmIs cells P ok) (h1 : NtsOk Q) (h2 : musTo Q Q.length = cells) (n : ∀ P', NtsOk P' → musTo P' P'.length = cells → P' = Q) : ok = true ∧ P = Q := by
  rcases h with ⟨a, b, c⟩ | ⟨_, _, a⟩
  · exact ⟨a, n P b c⟩
  · exact absurd ⟨Q, h1, h2⟩ a
end Go.Proofs.Ytfofjjfnejigaaa
