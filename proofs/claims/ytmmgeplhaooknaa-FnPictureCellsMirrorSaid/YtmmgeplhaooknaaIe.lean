
/- Invert of both sides. -/
import Derived.Test.YtmmgeplhaooknaaId
namespace Go.Proofs.Ytmmgeplhaooknaa
open Go.RowKit

/-- an answer where P holds, and none where it does not -/
def AnsIs (P : Prop) (A R : List (List Int)) : Prop := (P ∧ R = A) ∨ (¬ P ∧ R = [])
theorem ansIs_ex (P : Prop) (A : List (List Int)) (h : P → ListsSmall A) : ∃ R, AnsIs P A R ∧ ListsSmall R := by
  by_cases k : P
  · exact ⟨A, .inl ⟨k, rfl⟩, h k⟩
  · exact ⟨[], .inr ⟨k, rfl⟩, by simp, fun i hi => absurd hi (by simp)⟩
theorem AnsIs.no {P : Prop} {A R : List (List Int)} (h : AnsIs P A R) (k : ¬ P) : R = [] := by
  rcases h with ⟨h1, _⟩ | ⟨_, h1⟩
  · exact absurd h1 k
  · exact h1
theorem AnsIs.yes {P : Prop} {A R : List (List Int)} (h : AnsIs P A R) (k : P) : R = A := by
  rcases h with ⟨_, h1⟩ | ⟨h1, _⟩
  · exact h1
  · exact absurd k h1
theorem plOut_nil {R : List (List Int)} {w w' : World} (h : R = []) (hb : Below w.heap.size w w') : PlOut R w (.returned (.slice none 0 0)) w' :=
  ⟨_, _, _, rfl, by rw [h]; exact (OwnLL.nil w' w'.heap.size).lowerI hb.size, hb⟩
/-- the width of a picture -/
def wdt (L : List (List Int)) : Nat := (L.getD 0 []).length
theorem BlockOk.bd {L : List (List Int)} {H W : Nat} {M : Int} (h : BlockOk L H W M) : 1 ≤ L.length ∧ L.length ≤ H ∧ 1 ≤ wdt L ∧ wdt L ≤ W := ⟨h.1.1, h.1.2, h.2.1.1, h.2.1.2⟩
theorem BlockOk.bin {L : List (List Int)} {H W : Nat} (h : BlockOk L H W 1) (y x : Nat) : px L y x = 0 ∨ px L y x = 1 := by
  by_cases hy : y < L.length
  · by_cases hx : x < wdt L
    · have := (h.2.2 y hy).2 x hx; omega
    · exact .inl (px_out h.2.2 (.inr (by unfold wdt at hx; omega)))
  · exact .inl (px_out h.2.2 (.inl (by omega)))
theorem BlockOk.pic {w : World} {a : Option Addr} {n c H W : Nat} {M : Int} {L : List (List Int)} (h : BlockOk L H W M) (hx : ListsAt w (.slice a n c) L) : n = L.length ∧ PicAt w a n c (wdt L) (px L) :=
  hx.pic h.2.2 h.1.1 h.2.1.1
def InvertIs (L R : List (List Int)) : Prop := AnsIs (BlockOk L 24 24 1) (gridOf L.length (wdt L) fun y x => 1 - px L y x) R
theorem Invert_ex (L : List (List Int)) : ∃ R, InvertIs L R ∧ ListsSmall R :=
  ansIs_ex _ _ fun h => grid_small (by have := h.bd; omega) (by have := h.bd; omega)
set_option maxHeartbeats 2000000 in
theorem sl_Invert (w : World) (v : Value) (L R : List (List Int)) (hx : ListsAt w v L) (hR : InvertIs L R) :
    Calls Try.prog 38 #[v] w fun e w' => PlOut R w e w' := by
  obtain ⟨i0, hi, hz0, hz1, hz2⟩ := info_parts infoInt
  have HX := keptI hx
  have HR := keptI hR
  obtain ⟨a, n, cp, rfl, hn, x1, x2, _⟩ := hx.partsI
  clear hx hR hn
  go_enter Try.func38, Try.ntmps38
  go_wp2_with fail
  refine (s_validPicture w _ L HX.out).mono ?_
  rintro e w0 ⟨b, rfl, hb0, hbb⟩
  cases b with
  | false =>
    have HZ : Hid (R = []) := HR.out.no fun h => by simpa using hbb.2 h
    clear hbb
    go_wp2
    go_ret
    exact plOut_nil HZ.out hb0
  | true =>
    have HOK : Hid (BlockOk L 24 24 1) := keptI (hbb.1 rfl)
    have HZ : Hid (R = _) := HR.out.yes HOK.out
    obtain ⟨hn, hp⟩ := HOK.out.pic HX.out
    obtain ⟨hd1, hd2, hd3, hd4⟩ := HOK.out.bd
    have HN := Lib.hid hn
    rw [← hn] at hd1 hd2
    obtain ⟨m, hm⟩ : ∃ m, wdt L = m := ⟨_, rfl⟩
    rw [hm] at hd3 hd4 hp
    have HM := Lib.hid hm
    obtain ⟨f, hf⟩ : ∃ f : Nat → Nat → Int, f = fun y x => 1 - px L y x := ⟨_, rfl⟩
    have HF : Hid (∀ y x, f y x = 1 - px L y x) := fun y x => by rw [hf]
    have HZ : Hid (R = gridOf n m f) := by show _ = _; rw [HZ.out, HN.out, HM.out, hf]
    have HP := keptI hp
    have HB0 := keptI hb0
    have hs0 := hb0.size
    obtain ⟨_, _, g, off, rfl, _⟩ := hp
    have hal : Below w.heap.size w (w0.alloc (.cells #[] 26)) := hb0.alloc hs0 _
    have HO0 : Hid (OwnLL (w0.alloc (.cells #[] 26)) w.heap.size (w0.alloc (.cells #[] 26)).heap.size (.slice (some ⟨w0.heap.size, 0, none⟩) 0 0) (gridOf 0 m f)) := OwnLL.madeI w0 w.heap.size hs0
    have HA0 := keptI hal
    clear hbb hf hn hm hb0 hal
    go_wp2
    go_loopw [3, 4] (fun o i wr => ∃ k : Nat, k ≤ n ∧ i = .int .i64 k ∧ OwnLL wr w.heap.size wr.heap.size o (gridOf k m f) ∧ Below w.heap.size w wr) (fun _ i _ => n - (intOf i).toNat)
    case atStart => exact ⟨0, Nat.zero_le _, rfl, HO0.out, HA0.out⟩
    case round =>
      clear HO0 HA0
      rename World => wo
      obtain ⟨k, hk, rfl, hO, hB⟩ := hrel
      have hsz := hB.size
      have HO := keptI hO
      have HB := keptI hB
      obtain ⟨ao, no, co, hoo⟩ := hO.ls.isSlice
      subst hoo
      clear hO hB
      by_cases hlt : k < n
      · obtain ⟨_, _, b, o, d, e1, c0, hd5, hd6, hcx⟩ := HP.out.row hlt
        injection e1 with e1
        injection e1 with e1 e2
        subst e1 e2
        have HC0 := keptI c0
        have HCX := keptI hcx
        clear c0 hcx
        have hal : Below wo.heap.size wo (wo.alloc (.cells #[] 3)) := (Below.refl _ _).alloc (Nat.le_refl _) _
        have HI0 : Hid (OwnInts (wo.alloc (.cells #[] 3)) wo.heap.size (.slice (some ⟨wo.heap.size, 0, none⟩) 0 0) (rowOf 0 (f k))) := OwnInts.made _ _ (Nat.le_refl _)
        have HA1 := keptI hal
        clear hal
        have q1 : (0 : Int) ≤ (k : Int) := by omega
        have q2 : (k : Int) < (n : Int) := by omega
        go_wp2
        go_loopw [5, 6] (fun r j wx => ∃ q : Nat, q ≤ m ∧ j = .int .i64 q ∧ OwnInts wx wo.heap.size r (rowOf q (f k)) ∧ Below wo.heap.size wo wx) (fun _ j _ => m - (intOf j).toNat)
        case atStart => exact ⟨0, Nat.zero_le _, rfl, HI0.out, HA1.out⟩
        case round =>
          clear HI0 HA1
          obtain ⟨q, hq, rfl, hI, hb⟩ := hrel
          have hsx := hb.size
          have hbw := HB.out.trans (hb.mono hsz)
          have c0 := (hbw.cell (World.block_lt_of_cell? w _ HC0.out)).trans HC0.out
          have hrl := rowOf_len q (f k)
          obtain ⟨P, hP⟩ : ∃ P, rowOf q (f k) = P := ⟨_, rfl⟩
          rw [hP] at hI hrl
          have HP2 := Lib.hid hP
          have HI := keptI hI
          have HBx := keptI hb
          clear hP hI hb
          by_cases hqm : q < m
          · have c1 := (hbw.cell (World.block_lt_of_cell? w _ (HCX.out q hqm))).trans (HCX.out q hqm)
            have hbin := HOK.out.bin k q
            have HFk : Hid (f k q = 1 - px L k q) := HF.out k q
            obtain ⟨z, hz⟩ : ∃ z, px L k q = z := ⟨_, rfl⟩
            rw [hz] at c1 hbin HFk
            have hz0' : 0 ≤ z := by omega
            have hz1' : z ≤ 1 := by omega
            have hl9 : P.length ≤ 1000 := by omega
            have HRL := Lib.hid hrl
            clear hz hbin hbw hrl
            go_wp2_with (at_builtin; refine wpList_append_own _ rfl _ _ 26 rfl wo.heap.size 3 i0 (.int .i64 0) 1 8 Try.underlying26 hi hz0 hz1 hz2 rfl (by decide) _ _ _ rfl (HI.out.alloc _) ⟨_, 0, none⟩ 1 1 [.int .i64 (1 - z)] rfl rfl new_one one_cell (by unfold maxLen; omega) (by omega) (by simp; omega) ?_)
            intro v' w1 hown' hgrow _
            have R1 := OwnInts.snoc hown'
            have R2 := below_append HBx.out hsx HI.out hgrow
            have HR1 : Hid (OwnInts w1 wo.heap.size v' (rowOf (q + 1) (f k))) := by show OwnInts _ _ _ _; rw [rowOf_succ, HP2.out, HFk.out]; exact R1
            have HR2 := keptI R2
            clear hown' hgrow R1 R2
            go_wp2
            go_roundw
            case rel => exact ⟨q + 1, by omega, by go_num, HR1.out, HR2.out⟩
            case measure => simp [intOf]; omega
          · obtain rfl : q = m := by omega
            have hbw' := keptI hbw
            obtain ⟨b6, c6, hv6, hb6⟩ := HI.out.shape (by omega)
            subst hv6
            have HIm : Hid (OwnInts wr wo.heap.size (.slice (some ⟨b6, 0, none⟩) q c6) P) := by rw [← hrl]; exact HI.out
            have HO3 := keptI (HO.out.below HBx.out (Nat.le_refl _))
            have HRL := Lib.hid hrl
            have hl := gridOf_len k q f
            obtain ⟨G, hG⟩ : ∃ G, gridOf k q f = G := ⟨_, rfl⟩
            have HG := Lib.hid hG
            rw [hG] at HO3 hl
            have hal : Below wr.heap.size wr (wr.alloc (.cells #[.slice (some ⟨b6, 0, none⟩) P.length c6] 26)) := (Below.refl _ _).alloc (Nat.le_refl _) _
            have HO8 := keptI (HO3.out.below hal hsx)
            have HE8 := keptI (HI.out.below hal)
            have HC8 : Hid ((wr.alloc (.cells #[.slice (some ⟨b6, 0, none⟩) P.length c6] 26)).cell? ⟨wr.heap.size, 0, none⟩ = some (.slice (some ⟨b6, 0, none⟩) P.length c6)) := by
              show _ = _
              rw [cell_of_row _ wr.heap.size 0 _ _ _ (heap_alloc_new wr _)]; rfl
            have hl8 : G.length ≤ 100000 := by omega
            clear hal hG hl hrl hbw
            go_wp2_with (at_builtin; refine wpList_append_ll rfl _ _ rfl w.heap.size wo.heap.size wr.heap.size b6 P.length c6 P rfl rfl HO8.out HC8.out HE8.out rfl hl8 hsz ?_)
            intro v9 w9 hown9 hgrow9
            have HO9 : Hid (OwnLL w9 w.heap.size w9.heap.size v9 (gridOf (k + 1) q f)) := by show OwnLL _ _ _ _ _; rw [gridOf_succ, HG.out, HP2.out]; exact hown9
            have HB9 := keptI (grown_llI hbw'.out (by omega) HO3.out hgrow9)
            clear hown9 hgrow9
            go_wp2
            go_roundw
            case rel => exact ⟨k + 1, by omega, by go_num, HO9.out, HB9.out⟩
            case measure => simp [intOf]; omega
      · obtain rfl : k = n := by omega
        go_wp2
        go_ret
        exact ⟨_, _, _, rfl, by rw [HZ.out]; exact HO.out, HB.out⟩
theorem s_Invert (w : World) (v : Value) (L R : List (List Int)) (hx : ListsAt w v L) (hR : InvertIs L R) :
    Calls Try.prog 38 #[v] w fun e w' => PsOut R w e w' := (sl_Invert w v L R hx hR).mono fun _ _ h => h.ps
end Go.Proofs.Ytmmgeplhaooknaa
