
/- The cells of pieces, in the program. -/
import Derived.Test.YtdjgodemeaneeaaPw
import Derived.Test.YtdjgodemeaneeaaLetB
namespace Go.Proofs.Ytdjgodemeaneeaa
open Go.RowKit

/-- the cell of the letter at the index f -/
def letS (s : ByteArray) (f : Int) : Int := letL.getD ((s.data.toList.getD f.toNat 0).toNat - 97) 0
/-- the cells of a piece -/
def pcC (T : List PRule) (s : ByteArray) (p : PPiece) : List Int := if p.r = -1 then [letS s p.f] else (T.getD p.r.toNat noR).c
def pcsTo (T : List PRule) (s : ByteArray) (P : List PPiece) : Nat → List Int
  | 0 => []
  | k + 1 => pcsTo T s P k ++ pcC T s (P.getD k noP)
def pcsL (T : List PRule) (s : ByteArray) (P : List PPiece) : List Int := pcsTo T s P P.length
theorem endAt_ge {T : List PRule} {s : ByteArray} {P : List PPiece} (hv : ∀ i, i < T.length → ValidR (T.getD i noR)) : ∀ k, PvUp T s P k → (k : Int) ≤ endAt P k := by
  intro k
  induction k with
  | zero => intro _; simp [endAt]
  | succ k ih =>
    intro h
    have h1 := ih fun i hi => h i (by omega)
    have h2 := (h k (by omega)).1
    have h3 := pcOk_end (h k (by omega)).2 hv
    show _ ≤ (P.getD k noP).t
    omega
theorem pcC_len {T : List PRule} {s : ByteArray} {p : PPiece} (h : PcOk T s p) (hv : ∀ i, i < T.length → ValidR (T.getD i noR)) : 1 ≤ (pcC T s p).length ∧ (pcC T s p).length ≤ 2 := by
  unfold pcC
  split
  · simp
  · rename_i h0
    rcases h.2.2 with ⟨h1, _⟩ | ⟨h1, h2, _⟩
    · exact absurd h1 h0
    · exact (hv p.r.toNat (by omega)).2.1
theorem pcsTo_len {T : List PRule} {s : ByteArray} {P : List PPiece} (hv : ∀ i, i < T.length → ValidR (T.getD i noR)) : ∀ k, PvUp T s P k → (pcsTo T s P k).length ≤ 2 * k := by
  intro k
  induction k with
  | zero => intro _; simp [pcsTo]
  | succ k ih =>
    intro h
    have h1 := ih fun i hi => h i (by omega)
    have h2 := pcC_len (h k (by omega)).2 hv
    show (pcsTo T s P k ++ _).length ≤ _
    rw [List.length_append]; omega
theorem small_at {s : ByteArray} (hw : WordB 16 s.data.toList) {k : Nat} (hk : k < s.size) : ∃ j : Nat, j < 26 ∧ (s[k]'hk).toNat = 97 + j ∧ letS s (k : Int) = letL.getD j 0 := by
  have hl : k < s.data.toList.length := by rw [wd_size]; exact hk
  have h := hw.2.2 _ (List.getElem_mem hl)
  rw [wd_byte hk hl] at h
  have h' : 97 ≤ (s[k]'hk).toNat ∧ (s[k]'hk).toNat ≤ 122 := of_decide_eq_true h
  refine ⟨(s[k]'hk).toNat - 97, by omega, by omega, ?_⟩
  have h3 : s.data.toList.getD k 0 = s[k]'hk := by rw [List.getD_eq_getElem?_getD, List.getElem?_eq_getElem hl, Option.getD_some, wd_byte hk hl]
  unfold letS
  rw [Int.toNat_natCast, h3]
theorem IntsAt.news {w : World} {g off n cp : Nat} {zs : List Int} (h : IntsAt w (.slice (some ⟨g, off, none⟩) n cp) zs) : ∀ j u, (ints zs)[j]? = some u → w.cell? ((⟨g, off, none⟩ : Addr).add j) = some u := by
  intro j u hj
  obtain ⟨a, c, h1, _, _, h4⟩ := h
  injection h1 with e1 _ _
  rcases h4 with rfl | ⟨g', off', h5, h6⟩
  · simp [ints] at hj
  · rw [← e1] at h5
    injection h5 with e
    injection e with e2 e3 _
    subst e2 e3
    have hjl : j < zs.length := by
      have := (List.getElem?_eq_some_iff.1 hj).1
      rw [ints_length] at this; exact this
    rw [Addr.add_lit, h6 j hjl]
    simp only [ints, List.getElem?_map, List.getElem?_eq_getElem hjl, Option.map_some] at hj
    rw [← hj, List.getD_eq_getElem?_getD, List.getElem?_eq_getElem hjl, Option.getD_some]
theorem IntsAt.someAddr {w : World} {v : Value} {zs : List Int} (h : IntsAt w v zs) (hne : 1 ≤ zs.length) : ∃ g off c, v = .slice (some ⟨g, off, none⟩) zs.length c := by
  obtain ⟨a, c, h1, _, _, h4⟩ := h
  rcases h4 with rfl | ⟨g, off, rfl, _⟩
  · simp at hne
  · exact ⟨g, off, c, h1⟩
theorem OwnInts.addAll' {w : World} {base N : Nat} {v : Value} {xs ys : List Int} (h : w.ownsRow base 3 1 v N (ints xs ++ ints ys)) (hN : N = xs.length + ys.length) : OwnInts w base v (xs ++ ys) := by
  subst hN
  unfold OwnInts
  rw [show ints (xs ++ ys) = ints xs ++ ints ys from by simp [ints], List.length_append]
  exact h
theorem ints_oneCell' : ∀ (zs : List Int), ∀ u ∈ ints zs, u.oneCell' = true := by
  intro zs u hu
  simp [ints] at hu
  obtain ⟨z, _, rfl⟩ := hu
  rfl

theorem TableAt.someAddr {w : World} {a : Option Addr} {n cp : Nat} {T : List PRule} (h : TableAt w (.slice a n cp) T) (hne : 0 < T.length) : ∃ g off, a = some ⟨g, off, none⟩ := by
  obtain ⟨a', c, h1, _, _, h4⟩ := h
  injection h1 with e1 _ _
  rcases h4 with rfl | ⟨g, off, h5, _⟩
  · simp at hne
  · exact ⟨g, off, e1.trans h5⟩

end Go.Proofs.Ytdjgodemeaneeaa
