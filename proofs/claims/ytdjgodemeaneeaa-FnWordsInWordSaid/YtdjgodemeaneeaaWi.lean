
/- P56: its walk. -/
import Derived.Test.YtdjgodemeaneeaaWh
import Derived.Deep.RegionHeld3
namespace Go.Proofs.Ytdjgodemeaneeaa
open Go.RowKit

def OneAt (t : ByteArray) (w : World) (e : Ending) (w' : World) : Prop := ∃ g c, e = .returned (.slice (some ⟨g, 0, none⟩) 1 c) ∧ w'.cell? ⟨g, 0, none⟩ = some (.string t) ∧ Below w.heap.size w w'
def TwoAt (t u : ByteArray) (w : World) (e : Ending) (w' : World) : Prop := ∃ g c, e = .returned (.slice (some ⟨g, 0, none⟩) 2 c) ∧ w'.cell? ⟨g, 0, none⟩ = some (.string t) ∧ w'.cell? ⟨g, 1, none⟩ = some (.string u) ∧ Below w.heap.size w w'
section SXWi
theorem i_WordsIn_one (t : ByteArray) (w : World) (h : WordB 16 t.data.toList) :
    Calls Try.prog 19 #[.string t] w fun e w' => OneAt t w e w' := by
  have hs : t.size ≤ 1048576 := by have := h.2.1; rw [size_data] at this; omega
  refine (i_WordsIn t _ w rfl hs).mono ?_
  rintro e w' ⟨v, rfl, hO, hb⟩
  rw [wordsL_one h, bs_of] at hO
  obtain ⟨a, n, c, rfl⟩ := hO.isSlice
  obtain rfl : n = 1 := hO.len.symm
  obtain ⟨g, rfl, _, _, h0⟩ := hO.nth (i := 0) (by omega)
  exact ⟨g, c, rfl, h0, hb⟩
theorem i_WordsIn_two (t u : ByteArray) (w : World) (h : WordB 16 t.data.toList) (hu : WordB 16 u.data.toList) :
    Calls Try.prog 19 #[.string ((t ++ ⟨#[32]⟩) ++ u)] w fun e w' => TwoAt t u w e w' := by
  have hd := two_data t u
  have hs : ((t ++ ⟨#[32]⟩) ++ u).size ≤ 1048576 := by
    rw [← size_data, hd, List.length_append, List.length_cons]
    have := h.2.1; have := hu.2.1; omega
  refine (i_WordsIn _ _ w rfl hs).mono ?_
  rintro e w' ⟨v, rfl, hO, hb⟩
  rw [hd, wordsL_two h hu, bs_of, bs_of] at hO
  obtain ⟨a, n, c, rfl⟩ := hO.isSlice
  obtain rfl : n = 2 := hO.len.symm
  obtain ⟨g, rfl, _, _, h0⟩ := hO.nth (i := 0) (by omega)
  obtain ⟨g2, hg, _, _, h1⟩ := hO.nth (i := 1) (by omega)
  injection hg with hg
  injection hg with hg
  subst hg
  exact ⟨g, c, rfl, h0, h1, hb⟩
end SXWi
theorem below_dr {wr w6 : World} (h : Below wr.drew.heap.size wr.drew w6) : Below wr.heap.size wr w6 := (Below.refl _ _).drew.trans h
theorem below_al {wr w8 w7 : World} {o : Obj} (h : Below wr.heap.size wr w8) (k : Below (w8.alloc o).heap.size (w8.alloc o) w7) : Below wr.heap.size wr w7 := below_st (h.alloc h.size o) k
theorem below_al2 {wr w7 w9 : World} {o : Obj} (h : Below wr.heap.size wr w7) (k : Below (w7.heap.size + 1) (w7.alloc o) w9) : Below wr.heap.size wr w9 := (h.alloc h.size o).trans (k.mono (by have := h.size; omega))
theorem one_fact {w : World} {g6 g k : Nat} {t : ByteArray} (h : w.cell? ⟨g6, 0, none⟩ = some (.string t)) (h2 : w.cell? ⟨g, k, none⟩ = some (.string t)) :
    Hid (∀ i, i < 1 → ∃ t, w.cell? ⟨g6, 0 + i, none⟩ = some (.string t) ∧ w.cell? ⟨g, k + i, none⟩ = some (.string t)) := by
  intro i hi
  obtain rfl : i = 0 := by omega
  exact ⟨t, h, h2⟩
theorem two_fact {w : World} {g7 g : Nat} {t u : ByteArray} (h0 : w.cell? ⟨g7, 0, none⟩ = some (.string t)) (h1 : w.cell? ⟨g7, 1, none⟩ = some (.string u)) (k0 : w.cell? ⟨g, 0, none⟩ = some (.string t)) (k1 : w.cell? ⟨g, 1, none⟩ = some (.string u)) :
    Hid (∀ i, i < 2 → ∃ t, w.cell? ⟨g7, 0 + i, none⟩ = some (.string t) ∧ w.cell? ⟨g, 0 + i, none⟩ = some (.string t)) := by
  intro i hi
  rcases (show i = 0 ∨ i = 1 by omega) with rfl | rfl
  · exact ⟨t, h0, k0⟩
  · exact ⟨u, h1, k1⟩
theorem lit_cells {w : World} {T : TypeId} {t u : ByteArray} : (w.alloc (.cells #[.string t, .string u] T)).cell? ⟨w.heap.size, 0, none⟩ = some (.string t) ∧ (w.alloc (.cells #[.string t, .string u] T)).cell? ⟨w.heap.size, 1, none⟩ = some (.string u) := by
  constructor <;> simp
theorem cell_al {w : World} {o : Obj} {p : Addr} {v : Value} (h : w.cell? p = some v) : (w.alloc o).cell? p = some v := (((Below.refl w.heap.size w).alloc (Nat.le_refl _) o).cell (World.block_lt_of_cell? w _ h)).trans h
theorem OwnSt.cap {w : World} {base g n c : Nat} {l : List ByteArray} (h : OwnSt w base (.slice (some ⟨g, 0, none⟩) n c) l) : n ≤ c := by
  have hl := h.len
  rcases h.2 with ⟨h, _⟩ | ⟨g, cap, cur, h, _, _, h4, _⟩
  · simp at h
  · injection h with _ _ e
    omega

set_option maxRecDepth 20000 in
set_option maxHeartbeats 4000000 in
theorem wordsInWord_walk (a : Option Addr) (len cap : Nat) (zs : List Int) (w : World) (h : RowIn .u8 w a len cap zs) :
    Calls Try.prog 7 #[.slice a len cap] w fun e w' => e = .returned (.bool true) ∧ Below w.heap.size w w' := by
  have hlen : len ≤ 9223372036854775807 := by
    obtain ⟨_, h2, h3⟩ := bytesAt_of_row h; unfold maxLen at h3; omega
  by_cases hbig : len ≤ 1048576
  · go_enter Try.func7, Try.ntmps7
    go_wp2_with fail
    refine (drawWordsIn_any w a len cap zs h).mono ?_
    rintro e w1 ⟨s, rfl, hs, hb1⟩
    clear h
    obtain ⟨P, hP⟩ : ∃ P, wordsL s.data.toList = P := ⟨_, rfl⟩
    have hP60 : P.length ≤ 60 := by rw [← hP]; exact wordsL_len _
    have HME : Hid (∀ t ∈ P, WordB 16 t.data.toList) := by rw [← hP]; exact fun t ht => wordsL_mem ht
    have HS : Hid (∀ wx, Calls Try.prog 18 #[.string s] wx fun e w' => TextsMade P wx e w') := fun wx => by rw [← hP]; exact s_WordsIn s _ wx rfl (by omega)
    have HI : Hid (∀ wx, Calls Try.prog 19 #[.string s] wx fun e w' => TextsMade P wx e w') := fun wx => by rw [← hP]; exact i_WordsIn s _ wx rfl (by omega)
    have HB1 := keptS hb1
    clear hP hb1
    go_wp2_with fail
    refine (HI.out w1).mono ?_
    rintro e w2 ⟨v0, rfl, hO0, hb2⟩
    obtain ⟨a0, n0, c0, rfl⟩ := hO0.isSlice
    have HLN := keptS hO0.len
    have HO2 := keptS hO0
    have HB2 := keptS (below_st HB1.out hb2)
    clear hO0 hb2
    go_wp2_with fail
    refine (HS.out w2).mono ?_
    rintro e w3 ⟨v1, rfl, hO1, hb3⟩
    obtain ⟨a1, n1, c1, rfl⟩ := hO1.isSlice
    have HO3 := keptS (HO2.out.below hb3)
    have HO1 := keptS hO1
    have HB3 := keptS (below_st HB2.out hb3)
    clear hO1 hb3
    go_wp2_with fail
    refine (equalTexts_same w3 _ _ _ _ _ _ _ _ P HO3.out HO1.out).mono ?_
    rintro e w4 ⟨rfl, hb4⟩
    have HO4 := keptS (HO3.out.below hb4)
    have HB4 := keptS (below_st HB3.out hb4)
    clear hb4
    obtain ⟨b, hb⟩ : ∃ b, decide (ValidT s.data.toList) = b := ⟨_, rfl⟩
    have HB := keptS hb
    clear hb
    go_wp2_with fail
    refine (i_ValidText_v s b _ (by omega) HB).mono ?_
    rintro e w5 ⟨rfl, hb5⟩
    have HO5 := keptS (HO4.out.below hb5)
    have HB5 := keptS (below_st HB4.out hb5)
    clear hb5
    cases b with
    | false =>
      go_wp2_with fail
      refine (HS.out w5).mono ?_
      rintro e w6 ⟨v1, rfl, hO1, hb6⟩
      obtain ⟨a1, n1, c1, rfl⟩ := hO1.isSlice
      have HO6 := keptS (HO5.out.below hb6)
      have HO1 := keptS hO1
      have HB6 := keptS (below_st HB5.out hb6)
      clear hO1 hb6
      go_wp2_with fail
      refine (equalTexts_same w6 _ _ _ _ _ _ _ _ P HO6.out HO1.out).mono ?_
      rintro e w7 ⟨rfl, hb7⟩
      have HB7 := keptS (below_st HB6.out hb7)
      clear hb7
      go_wp2
      go_ret
      exact ⟨rfl, HB7.out⟩
    | true =>
      have hn0 : n0 ≤ 60 := by have := HLN.out; omega
      go_wp2
      go_loopw [5] (fun y wr => ∃ k : Nat, k ≤ n0 ∧ y = .int .i64 k ∧ Below w5.heap.size w5 wr) (fun y _ => n0 - (intOf y).toNat)
      case atStart => exact ⟨0, by omega, rfl, Below.refl _ _⟩
      case round =>
        obtain ⟨k, hk, rfl, hbr⟩ := hrel
        by_cases hlt : k < n0
        · have hlP : k < P.length := by have := HLN.out; omega
          have hO := HO5.out.below hbr
          obtain ⟨g, rfl, _, _, dk⟩ := hO.nth hlt
          obtain ⟨g2, hg, _, _, d0⟩ := hO.nth (i := 0) (by omega)
          injection hg with hg
          injection hg with hg
          subst hg
          have hcap := hO.cap
          have HBR := keptS (below_st HB5.out hbr)
          have HBR5 := keptS hbr
          obtain ⟨t, ht⟩ : ∃ t, P.getD k ⟨#[]⟩ = t := ⟨_, rfl⟩
          obtain ⟨u, hu⟩ : ∃ u, P.getD 0 ⟨#[]⟩ = u := ⟨_, rfl⟩
          rw [ht] at dk
          rw [hu] at d0
          have mem : ∀ i, i < P.length → P.getD i ⟨#[]⟩ ∈ P := fun i hi => by
            rw [List.getD_eq_getElem?_getD, List.getElem?_eq_getElem hi]
            exact List.getElem_mem hi
          have hwt : WordB 16 t.data.toList := HME.out t (by rw [← ht]; exact mem k hlP)
          have hwu : WordB 16 u.data.toList := HME.out u (by rw [← hu]; exact mem 0 (by omega))
          have hts : t.size ≤ 16 := by have := hwt.2.1; rw [size_data] at this; exact this
          have hus : u.size ≤ 16 := by have := hwu.2.1; rw [size_data] at this; exact this
          have HI1 : Hid (∀ wx, Calls Try.prog 19 #[.string t] wx fun e w' => OneAt t wx e w') := fun wx => i_WordsIn_one t wx hwt
          have HI2 : Hid (∀ wx, Calls Try.prog 19 #[.string ((t ++ ⟨#[32]⟩) ++ u)] wx fun e w' => TwoAt t u wx e w') := fun wx => i_WordsIn_two t u wx hwt hwu
          have HK : Hid (∀ wy, Below wr.heap.size wr wy → wy.cell? ⟨g, k, none⟩ = some (.string t) ∧ wy.cell? ⟨g, 0, none⟩ = some (.string u)) := fun wy h => ⟨(h.cell (World.block_lt_of_cell? wr _ dk)).trans dk, (h.cell (World.block_lt_of_cell? wr _ d0)).trans d0⟩
          have hz : (⟨#[32]⟩ : ByteArray).size = 1 := rfl
          have hz2 : (t ++ ⟨#[32]⟩ : ByteArray).size ≤ 17 := by rw [ByteArray.size_append]; omega
          have r1 := fun wx => run_string_add_sum (P := Try.prog) wx t (⟨#[32]⟩ : ByteArray) (by omega)
          have r2 := fun wx => run_string_add_sum (P := Try.prog) wx (t ++ ⟨#[32]⟩ : ByteArray) u (by omega)
          have q1 : IntKind.i64.wrap ((k : Int) + 1) = (k : Int) + 1 := IntWalk.i64_in _ (by omega)
          have q2 : (0 : Int) ≤ (k : Int) := by omega
          have q3 : (k : Int) < (n0 : Int) := by omega
          have q4 : (0 : Int) < (n0 : Int) := by omega
          have q4n : 0 < n0 := by omega
          have q4m : (0 : Int) ≤ (0 : Int) := by omega
          have q5 : (k : Int) ≤ (k : Int) + 1 := by omega
          have q6 : (k : Int) + 1 ≤ (c0 : Int) := by omega
          have q7 : ((k : Int) + 1).toNat = k + 1 := by omega
          have q8 : (0 : Int) ≤ (k : Int) + 1 := by omega
          have q9 : ¬ c0 = k := by omega
          clear ht hu mem hwt hwu dk d0 hbr hO hlP hz hz2
          go_wp2_with fail
          go_region_held3 (fun wy => wy.cell? ⟨g, k, none⟩ = some (.string t) ∧ wy.cell? ⟨g, 0, none⟩ = some (.string u)) (first | assumption | exact HK.out _ (Below.refl _ _).drew | exact HK.out _ B9 | exact HK.out _ B7 | exact HK.out _ B8 | exact HK.out _ B6 | exact HK.out _ (B7.alloc B7.size _) | exact HK.out _ (B8.alloc B8.size _)) (first
            | (go_at_call 19; (with_reducible refine (HI1.out _).mono ?_); rintro e w6 ⟨g6, c6, rfl, h6, hb6⟩; have B6 := below_dr hb6)
            | (go_at_call 19; (with_reducible refine (HI2.out _).mono ?_); rintro e w7 ⟨g7, c7, rfl, h70, h71, hb7⟩; have B7 := (by first | exact below_st B8 hb7 | exact below_al B8 hb7 | exact below_al2 B8 hb7 : Below wr.heap.size wr w7))
            | (go_at_call 24; (with_reducible refine (equalTexts_at w6 g6 0 g k 1 c6 _ (by omega) (one_fact h6 (HK.out _ B6).1)).mono ?_); rintro e w8 ⟨rfl, hb8⟩; have B8 := below_st B6 hb8)
            | (go_at_call 24; (with_reducible refine (equalTexts_at (w7.alloc (.cells #[.string t, .string u] 9)) g7 0 w7.heap.size 0 2 c7 _ (by omega) (two_fact (cell_al h70) (cell_al h71) lit_cells.1 lit_cells.2)).mono ?_); rintro e w9 ⟨rfl, hb9⟩; have B9 := (by first | exact below_al B7 hb9 | exact below_al2 B7 hb9 : Below wr.heap.size wr w9))
            | (go_at_call 24; (with_reducible refine (equalTexts_at w7 g7 0 w8.heap.size 0 2 c7 _ (by omega) (two_fact h70 h71 ((hb7.cell (World.block_lt_of_cell? _ _ lit_cells.1)).trans lit_cells.1) ((hb7.cell (World.block_lt_of_cell? _ _ lit_cells.2)).trans lit_cells.2))).mono ?_); rintro e w9 ⟨rfl, hb9⟩; have B9 := below_st B7 hb9))
          all_goals
            have HB9 := keptS (HBR5.out.trans (B9.mono HBR5.out.size))
            go_wp2
            go_roundw
            case rel => exact ⟨k + 1, by omega, by go_num, HB9.out⟩
            case measure => simp [intOf]; omega
        · have FIN := keptS (below_st HB5.out hbr)
          clear hbr
          go_wp2
          go_ret
          exact ⟨rfl, FIN.out⟩
  · go_enter Try.func7, Try.ntmps7
    go_wp2
    go_ret
    exact ⟨rfl, Below.refl _ _⟩
end Go.Proofs.Ytdjgodemeaneeaa
