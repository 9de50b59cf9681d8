
/- The exact law of MusicCells. -/
import Derived.Test.YtfofjjfnejigaaaNud
import Derived.Test.YtfofjjfnejigaaaEqIntS
import Derived.Test.YtfofjjfnejigaaaExM
namespace Go.Proofs.Ytfofjjfnejigaaa
open Go.RowKit

theorem eqIntS_sameU (w : World) (u v : Value) (xs : List Int) (hx : IntsAt w u xs) (hy : IntsAt w v xs) :
    Calls Try.prog 21 #[u, v] w fun e w' => e = .returned (.bool true) ∧ Below w.heap.size w w' := by
  have := eqIntS_any w u v xs xs hx hy
  rw [decide_eq_true rfl] at this
  exact this
theorem OwnInts.of_blockU {w w' : World} {base : Nat} {v : Value} {zs : List Int} (h : OwnInts w base v zs) (hk : ∀ k, v.ownBlock = some k → w'.heap[k]? = w.heap[k]?) : OwnInts w' base v zs := by
  rcases h with ⟨h0, ⟨hv, hn⟩ | ⟨g, cap, cur, hv, hb, hg, h1, h2, h3, h4⟩⟩
  · exact ⟨h0, .inl ⟨hv, hn⟩⟩
  · exact ⟨h0, .inr ⟨g, cap, cur, hv, hb, (hk g (by rw [hv]; rfl)).trans hg, h1, h2, h3, h4⟩⟩
set_option maxHeartbeats 4000000 in
theorem exMusicCells_walk (a : Option Addr) (len cap : Nat) (P : List PNote) (w : World) (hx : NotesAt w (.slice a len cap) P) (hn : P.length = len) :
    Calls Try.prog 7 #[.slice a len cap] w fun e w' => e = .returned (.bool true) ∧ Below w.heap.size w w' := by
  have HN := Lib.hid hn
  have HX := Lib.hid hx
  obtain ⟨L, hr⟩ := musIs_ex P
  have HR := Lib.hid hr
  have HL : Hid (L.length ≤ 80) := hr.len
  clear hr hn hx
  go_enter Try.func7, Try.ntmps7
  go_wp2_with fail
  refine (szNoteS_any w _ P _ HX.out (by omega) (by omega)).mono ?_
  rintro e w' ⟨⟨l2, rfl, hl2⟩, rfl⟩
  rcases hl2 with rfl | ⟨hl20, hl21, hl22⟩
  · go_wp2
    go_ret
    exact ⟨rfl, Below.refl _ _⟩
  · have d2 : decide (l2 < 0) = false := decide_eq_false (by omega)
    have hlen : len ≤ 1048576 := by have := HN.out; omega
    clear hl22
    go_wp2_with fail
    refine (toNoteS_any w _ P len HX.out hlen HN).mono ?_
    rintro e w1 ⟨rfl, hO1, hb1⟩
    go_wp2_with fail
    refine (s_MusicCells w1 _ P L hO1.at HR).mono ?_
    rintro e w2 ⟨a2, n2, c2, rfl, hI2, hb2⟩
    have hB2 := below_next hb1 hb2
    clear hO1 hb1 hb2
    go_wp2_with fail
    refine (toNoteS_any w2 _ P len (HX.out.below hB2) hlen HN).mono ?_
    rintro e w3 ⟨rfl, hO3, hb3⟩
    have hI3 := hI2.below hb3
    have hB3 := below_next hB2 hb3
    have hlt2 : Hid (∀ k, (Value.slice a2 n2 c2).ownBlock = some k → k < w2.heap.size) := fun k hk => (World.ownsRow.lt hI2 k hk).2
    have hw2 : w.heap.size ≤ w2.heap.size := hB2.size
    have hw3 : w2.heap.size < w3.heap.size := (World.ownsRow.lt hO3 _ rfl).2
    clear hB2 hb3 hI2
    go_wp2_with fail
    refine (i_MusicCells w3 _ P L hO3.at HR).mono ?_
    rintro e w4 ⟨a4, n4, c4, rfl, hI4, hb4⟩
    have hO4 := hO3.below hb4
    have hB4 := below_next hB3 hb4
    have hI24 := hI3.below hb4
    have hw4 : w3.heap.size ≤ w4.heap.size := hb4.size
    clear hO3 hb4 hB3 hI3
    go_wp2_with fail
    refine (eqIntS_sameU w4 _ _ L hI4.at hI24.at).mono ?_
    rintro e w5 ⟨rfl, hb5⟩
    have hO5 := hO4.below hb5
    have hB5 := below_next hB4 hb5
    have hI25 := hI24.below hb5
    have hI5 := hI4.below hb5
    have hw5 := hb5.size
    clear hO4 hb5 hB4 hI24 hI4
    go_wp2_with fail
    refine (toNoteS_any w5 _ P len (HX.out.below hB5) hlen HN).mono ?_
    rintro e w6 ⟨rfl, hO6, hb6⟩
    have hO56 := hO5.below hb6
    have hB6 := below_next hB5 hb6
    have hI26 := hI25.below hb6
    have hI6 := hI5.below hb6
    have hw6 := hb6.size
    clear hO5 hb6 hB5 hI25 hI5
    go_wp2_with fail
    refine (eqNoteS_same w6 _ _ P hO56.at hO6.at).mono ?_
    rintro e w7 ⟨rfl, hb7⟩
    have hB7 := below_next hB6 hb7
    have hO7 := hO56.below hb7
    have hI27 := hI26.below hb7
    have hI7 := hI6.below hb7
    have hw7 := hb7.size
    clear hO6 hO56 hb7 hB6 hI26 hI6
    go_wp2_with fail
    refine (markNoteS_own w7 w2.heap.size _ _ _ P hO7 hlen).mono ?_
    rintro e w8 ⟨rfl, _, hg8⟩
    have d3 : decide (1 + 2 * (len : Int) < 0) = false := decide_eq_false (by omega)
    have hB8 : Below w.heap.size w w8 := hB7.grown hg8 (Nat.le_trans hw2 (by omega)) (fun q hq => by have : some w2.heap.size = some q := hq; injection this with this; omega)
    have hI28 := hI27.of_blockU (fun b hb => hg8.block b (by have := hlt2.out b hb; omega) (fun e => by have e' : some b = some w2.heap.size := e; injection e' with e'; have := hlt2.out b hb; omega))
    have hI8 := hI7.of_blockU (fun b hb => hg8.block b (World.ownsRow.lt hI7 b hb).2 (fun e => by have e' : some b = some w2.heap.size := e; injection e' with e'; have := (World.ownsRow.lt hI7 b hb).1; omega))
    have hw8 := hg8.size
    clear hO7 hg8 hB7 hI27 hI7
    go_wp2_with fail
    refine (eqIntS_sameU w8 _ _ L hI8.at hI28.at).mono ?_
    rintro e w9 ⟨rfl, hb9⟩
    have hB9 := below_next hB8 hb9
    have hI29 := hI28.below hb9
    have hI9 := hI8.below hb9
    have hw9 := hb9.size
    obtain ⟨m, hm⟩ : ∃ m, L.length = m := ⟨_, rfl⟩
    have HM := Lib.hid hm
    have hm40 : m ≤ 80 := by rw [← hm]; exact HL.out
    clear hB8 hb9 hI28 hI8 hm
    go_wp2_with fail
    refine (markIntS_own w9 w3.heap.size a4 m n4 c4 L hI9 HM (by omega)).mono ?_
    rintro e w10 ⟨rfl, hI10, hb10⟩
    have hB10 : Below w.heap.size w w10 := hB9.trans (hb10.mono (by omega))
    have hI210 := hI29.of_blockU (fun b hb => hb10.block b (by have := hlt2.out b hb; omega))
    clear hB9 hb10 hI29 hI9
    go_wp2_with fail
    refine (heldIntS_own w10 w3.heap.size _ m hI10 (by omega)).mono ?_
    rintro e w' ⟨rfl, rfl⟩
    have d4 : decide (1 + (m : Int) < 0) = false := decide_eq_false (by omega)
    go_wp2_with fail
    refine (toNoteS_any w10 _ P len (HX.out.below hB10) hlen HN).mono ?_
    rintro e w11 ⟨rfl, hO11, hb11⟩
    have hB11 := below_next hB10 hb11
    have hI211 := hI210.below hb11
    have hI11 := hI10.below hb11
    clear hB10 hb11 hI210 hI10
    go_wp2_with fail
    refine (i_MusicCells w11 _ P L hO11.at HR).mono ?_
    rintro e w12 ⟨a12, n12, c12, rfl, hI12, hb12⟩
    have hB12 := below_next hB11 hb12
    have hI212 := hI211.below hb12
    have hIm := hI11.below hb12
    clear hB11 hb12 hI211 hI11 hO11
    go_wp2_with fail
    refine (eqIntS_sameU w12 _ _ L hI12.at hI212.at).mono ?_
    rintro e w13 ⟨rfl, hb13⟩
    have hB13 := below_next hB12 hb13
    have hIm13 := hIm.below hb13
    clear hB12 hb13 hI212 hIm hI12
    go_wp2_with fail
    refine (heldIntS_own w13 w3.heap.size _ m hIm13 (by omega)).mono ?_
    rintro e w' ⟨rfl, rfl⟩
    go_wp2
    go_ret
    exact ⟨rfl, hB13⟩
end Go.Proofs.Ytfofjjfnejigaaa
