
/- ReadMusic of the model. -/
import Derived.Test.YtfofjjfnejigaaaNup
import Derived.Test.YtfofjjfnejigaaaNud
namespace Go.Proofs.Ytfofjjfnejigaaa
open Go.RowKit

theorem nrIs_ok {c l : Int} {x : PNote} (h : NrIs c l x true) : NtOk x := by
  rcases h with ⟨_, ⟨v, h1, _, rfl⟩ | ⟨v, p, h1, h2, _, _, rfl⟩⟩ | ⟨h, _⟩
  · exact ⟨by simp, by simp, h1.1, h1.2⟩
  · exact ⟨by simp only; omega, h2.2, h1.1, h1.2⟩
  · simp at h
theorem runS_bd {cells : List Int} : ∀ {k Q l}, RunS cells k Q l → (-1 ≤ l ∧ l ≤ 48) ∧ Q.length ≤ k := by
  intro k Q l h
  induction h with
  | zero => simp
  | @plain k Q l x h _ _ h2 ih =>
    have hb := nrIs_ok h2
    refine ⟨?_, by have := ih.2; simp; omega⟩
    split
    · exact ⟨hb.1, hb.2.1⟩
    · exact ih.1
  | @marked k Q l o x h _ h1 h0 h2 ih =>
    refine ⟨?_, by have := ih.2; simp; omega⟩
    have ho := (octIs_in h1 h0).2.1
    split
    · rcases h2 with ⟨_, v, p, _, hp, _, rfl⟩ | ⟨h, _⟩
      · simp only; omega
      · simp at h
    · exact ih.1
set_option maxHeartbeats 4000000 in
theorem s_ReadMusic (w : World) (v : Value) (cells : List Int) (P0 : List PNote) (ok0 : Bool) (hx : IntsAt w v cells) (hr : Hid (RmIs cells P0 ok0)) :
    Calls Try.prog 18 #[v] w fun e w' => RmOut P0 ok0 w e w' := by
  have HX := keptN hx
  obtain ⟨a, cp, rfl, x1, x2, _⟩ := hx
  obtain ⟨n, hn⟩ : ∃ n, cells.length = n := ⟨_, rfl⟩
  rw [hn] at x1 HX ⊢
  have HN := Lib.hid hn
  by_cases hv : ValidL cells
  · have HV : Hid (decide (ValidL cells) = true) := decide_eq_true hv
    have hl : n ≤ 200 := by rw [← hn]; exact hv.1
    have HB0 := keptN ((Below.refl w.heap.size w).alloc (Nat.le_refl _) (.cells #[] 35))
    have HO0 : Hid (OwnNt (w.alloc (.cells #[] 35)) w.heap.size (.slice (some ⟨w.heap.size, 0, none⟩) 0 0) []) := OwnNt.made w w.heap.size (Nat.le_refl _)
    have HX1 := keptN (HX.out.below HB0.out)
    clear hv hn
    go_enter Try.func18, Try.ntmps18
    go_wp2_with fail
    refine (s_validCells_m _ _ cells true HX1.out HV).mono ?_
    rintro e w' ⟨rfl, rfl⟩
    clear HX1
    go_wp2_with fail
    go_loopw [4, 5, 6] (fun o l i wr => ∃ (k : Nat) (P : List PNote) (la : Int), k ≤ n ∧ i = .int .i64 k ∧ l = .int .i64 la ∧ RunS cells k P la ∧ OwnNt wr w.heap.size o P ∧ Below w.heap.size w wr) (fun _ _ i _ => n - (intOf i).toNat)
    case atStart => exact ⟨0, [], -1, Nat.zero_le _, rfl, rfl, .zero, HO0.out, HB0.out⟩
    case round =>
      clear HO0 HB0
      obtain ⟨k, P, la, hk, rfl, rfl, hrun, hO, hb1⟩ := hrel
      have hsz := hb1.size
      obtain ⟨ao, no, co, hoo⟩ := hO.isSlice
      subst hoo
      by_cases hlt : k < n
      · obtain ⟨g, off, rfl, c0⟩ := (HX.out.below hb1).nthR hlt
        obtain ⟨c, hc⟩ : ∃ c, cells.getD k 0 = c := ⟨_, rfl⟩
        rw [hc] at c0
        have HC := Lib.hid hc
        obtain ⟨bl, bq⟩ := runS_bd hrun
        have HRUN := keptN hrun
        have b1 : (0 : Int) ≤ (k : Int) := by omega
        have b2 : (k : Int) < (n : Int) := by omega
        have HO := keptN hO
        have HB := keptN hb1
        clear hc hrun hO hb1
        go_wp2_with fail
        refine (s_octaveOf _ c).mono ?_
        rintro e w2 ⟨⟨r, rfl, hroct⟩, hb2⟩
        have c1 := (hb2.cell (World.block_lt_of_cell? wr _ c0)).trans c0
        have HB2 := keptN (HB.out.trans (hb2.mono hsz))
        have HO2 := keptN (HO.out.below hb2)
        clear c0 hb2 HB HO
        go_wp2_with fail
        refine (s_readNote _ c la bl).mono ?_
        rintro e w3 ⟨p, f, ok, rfl, hno, hb3⟩
        have HBX := keptN (HB2.out.trans (hb3.mono HB2.out.size))
        have HOX := keptN (HO2.out.below hb3)
        clear c1 hb3 HB2 HO2
        by_cases hr0 : 0 ≤ r
        · have d0 : decide (0 ≤ r) = true := decide_eq_true hr0
          by_cases hk9 : k + 1 < n
          · have hk1 : k + 1 < n := by omega
            have d2 : decide ((k : Int) + 1 < (n : Int)) = true := decide_eq_true (by omega)
            have d2n : decide (k + 1 < n) = true := decide_eq_true hk1
            obtain ⟨c2, hc2⟩ : ∃ c2, cells.getD (k + 1) 0 = c2 := ⟨_, rfl⟩
            have hq2 := (HX.out.below (HBX.out.alloc HBX.out.size (.cells #[.int .i64 p, .int .i64 f] 35))).nthR (k := k + 1) hk1
            obtain ⟨g', off', eg, x1⟩ := hq2
            injection eg with eg
            injection eg with eg1 eg2 _
            subst eg1 eg2
            rw [hc2] at x1
            have HC2 := Lib.hid hc2
            have ho6 : 0 ≤ r ∧ r ≤ 6 := ⟨hr0, (octIs_in hroct hr0).2.1⟩
            have HRO := keptN hroct
            have hs3 := HBX.out.size
            have hnb := heap_alloc_new w3 (.cells #[.int .i64 p, .int .i64 f] 35)
            have HNB := keptN hnb
            have HOW3 := keptN (HOX.out.below ((Below.refl _ _).alloc (Nat.le_refl _) (.cells #[.int .i64 p, .int .i64 f] 35)))
            have HBW3 := keptN (HBX.out.alloc HBX.out.size (.cells #[.int .i64 p, .int .i64 f] 35))
            have hob : Hid (∀ b, (Value.slice ao no co).ownBlock = some b → b < w3.heap.size) := fun b hb => (World.ownsRow.lt HOX.out b hb).2
            have u1 : IntKind.i64.wrap ((k : Int) + 1) = (k : Int) + 1 := IntWalk.i64_in _ (by omega)
            have b3 : (0 : Int) ≤ (k : Int) + 1 := by omega
            have b4 : (k : Int) + 1 < (n : Int) := by omega
            have b5 : ((k : Int) + 1).toNat = k + 1 := by omega
            clear hc2 hroct hno hnb
            go_wp2_with fail
            refine (s_readMarked _ c2 r ho6).mono ?_
            rintro e w5 ⟨p2, f2, ok2, rfl, hno2, hb5⟩
            have hnb5 := (hb5.block w3.heap.size (by simp)).trans HNB.out
            have e0 : w5.cell? ⟨w3.heap.size, 0, none⟩ = some (.int .i64 p) := by rw [cell_of_row w5 _ 0 _ _ _ hnb5]; rfl
            have e1 : w5.cell? ⟨w3.heap.size, 1, none⟩ = some (.int .i64 f) := by rw [cell_of_row w5 _ 1 _ _ _ hnb5]; rfl
            have f0 : w5.frozen? ⟨w3.heap.size, 0, none⟩ = false := frozen_of_row w5 _ 0 _ _ hnb5
            have f1 : w5.frozen? ⟨w3.heap.size, 1, none⟩ = false := frozen_of_row w5 _ 1 _ _ hnb5
            have k1 := heap_setCell_same w5 w3.heap.size 0 _ _ (.int .i64 p2) hnb5
            have k2 := heap_setCell_same _ w3.heap.size 1 _ _ (.int .i64 f2) k1
            have n0 : ((w5.setCell ⟨w3.heap.size, 0, none⟩ (.int .i64 p2)).setCell ⟨w3.heap.size, 1, none⟩ (.int .i64 f2)).cell? ⟨w3.heap.size, 0, none⟩ = some (.int .i64 p2) := by rw [cell_of_row _ _ 0 _ _ _ k2]; rfl
            have n1 : ((w5.setCell ⟨w3.heap.size, 0, none⟩ (.int .i64 p2)).setCell ⟨w3.heap.size, 1, none⟩ (.int .i64 f2)).cell? ⟨w3.heap.size, 1, none⟩ = some (.int .i64 f2) := by rw [cell_of_row _ _ 1 _ _ _ k2]; rfl
            have HO5 := HOW3.out.below hb5
            have HB5 := HBW3.out.trans (hb5.mono HBW3.out.size)
            have HOW : Hid (OwnNt ((w5.setCell ⟨w3.heap.size, 0, none⟩ (.int .i64 p2)).setCell ⟨w3.heap.size, 1, none⟩ (.int .i64 f2)) w.heap.size (.slice ao no co) P) := HO5.of_block fun b hb => by
              have hlt := hob.out b hb
              exact (heap_setCell_other _ ⟨w3.heap.size, 1, none⟩ b _ (by simp; omega)).trans (heap_setCell_other _ ⟨w3.heap.size, 0, none⟩ b _ (by simp; omega))
            have HBW := keptN ((HB5.setCell (p := ⟨w3.heap.size, 0, none⟩) hs3 (.int .i64 p2)).setCell (p := ⟨w3.heap.size, 1, none⟩) hs3 (.int .i64 f2))
            clear hnb5 k1 k2 HO5 HB5 hb5 HOW3 HBW3 HNB
            cases ok2 with
            | false =>
              have HST := keptN hno2
              clear hno2
              go_wp2
              refine bodyPost_ret (results_twoN rfl _ _ _) rfl ?_
              have HF := hr.out.no (fun P' h1 h2 => by
                subst h2
                have := (marked_step h1 (runS_at h1 HRUN.out) (by rw [HN.out]; exact hk1) (by rw [HC.out]; exact HRO.out) hr0 (by rw [HC2.out]; exact HST.out)).1
                simp at this)
              exact ⟨none, 0, 0, by rw [HF.1]; rfl, by rw [HF.2]; exact OwnNt.nil _ _, HBW.out⟩
            | true =>
              have HNX : Hid (RunS cells (k + 2) (P ++ [⟨p2, f2⟩]) (if 0 ≤ p2 then p2 else la)) := .marked HRUN.out (by rw [HN.out]; exact hk1) (by rw [HC.out]; exact HRO.out) hr0 (by rw [HC2.out]; exact hno2)
              clear hno2
              have hA2 := noteAt_alloc ((w5.setCell ⟨w3.heap.size, 0, none⟩ (.int .i64 p2)).setCell ⟨w3.heap.size, 1, none⟩ (.int .i64 f2)) ⟨p2, f2⟩
              have hsx : ((w5.setCell ⟨w3.heap.size, 0, none⟩ (.int .i64 p2)).setCell ⟨w3.heap.size, 1, none⟩ (.int .i64 f2)).heap.size = w5.heap.size := by simp
              rw [hsx] at hA2
              have HA2 := keptN hA2
              have HOA := keptN (HOW.out.below ((Below.refl _ _).alloc (Nat.le_refl _) (.cells #[.int .i64 p2, .int .i64 f2] 35)))
              have hs9 : w.heap.size ≤ (((w5.setCell ⟨w3.heap.size, 0, none⟩ (.int .i64 p2)).setCell ⟨w3.heap.size, 1, none⟩ (.int .i64 f2)).alloc (.cells #[.int .i64 p2, .int .i64 f2] 35)).heap.size := by have := HBW.out.size; rw [World.size_alloc]; omega
              have HS9 := keptN hs9
              clear hA2 hs9 hsx
              by_cases hp : 0 ≤ p2
              · have dp : decide (0 ≤ p2) = true := decide_eq_true hp
                have HNX2 : Hid (RunS cells (k + 2) (P ++ [⟨p2, f2⟩]) p2) := by have := HNX.out; rw [if_pos hp] at this; exact this
                go_wp2_with (at_builtin; go_loud (refine wpList_append_note rfl _ _ rfl w.heap.size (w5.heap.size) ⟨p2, f2⟩ rfl rfl HOA.out HA2.out (by omega) HS9.out ?_))
                intro v7 w7 hO7 hg7
                have hB7 := grown_nt HBW.out HBW.out.size HOW.out hg7
                have NXT := keptN (And.intro hO7 hB7)
                clear hO7 hg7 hB7 HOA HA2 HOW HBW
                go_wp2
                go_roundw
                case rel => exact ⟨k + 2, _, p2, by omega, by go_num, rfl, HNX2.out, NXT.out.1, NXT.out.2⟩
                case measure => simp [intOf]; omega
              · have dp : decide (0 ≤ p2) = false := decide_eq_false hp
                have HNX2 : Hid (RunS cells (k + 2) (P ++ [⟨p2, f2⟩]) la) := by have := HNX.out; rw [if_neg hp] at this; exact this
                go_wp2_with (at_builtin; go_loud (refine wpList_append_note rfl _ _ rfl w.heap.size (w5.heap.size) ⟨p2, f2⟩ rfl rfl HOA.out HA2.out (by omega) HS9.out ?_))
                intro v7 w7 hO7 hg7
                have hB7 := grown_nt HBW.out HBW.out.size HOW.out hg7
                have NXT := keptN (And.intro hO7 hB7)
                clear hO7 hg7 hB7 HOA HA2 HOW HBW
                go_wp2
                go_roundw
                case rel => exact ⟨k + 2, _, la, by omega, by go_num, rfl, HNX2.out, NXT.out.1, NXT.out.2⟩
                case measure => simp [intOf]; omega
          · have d2 : decide ((k : Int) + 1 < (n : Int)) = false := decide_eq_false (by omega)
            have d2n : decide (k + 1 < n) = false := decide_eq_false hk9
            have u1 : IntKind.i64.wrap ((k : Int) + 1) = (k : Int) + 1 := IntWalk.i64_in _ (by omega)
            have HPL : Hid (c ∉ octL ∨ ¬ k + 1 < n) := .inr hk9
            clear hroct
            have HOW := keptN (HOX.out.below ((Below.refl _ _).alloc (Nat.le_refl _) (.cells #[.int .i64 p, .int .i64 f] 35)))
            have HBW := keptN (HBX.out.alloc HBX.out.size (.cells #[.int .i64 p, .int .i64 f] 35))
            cases ok with
            | false =>
              have HST := keptN hno
              clear hno
              go_wp2
              refine bodyPost_ret (results_twoN rfl _ _ _) rfl ?_
              have HF := hr.out.no (fun P' h1 h2 => by
                subst h2
                have := (plain_step h1 (runS_at h1 HRUN.out) (by rw [HN.out]; exact hlt) (by rw [HC.out, HN.out]; exact HPL.out) (by rw [HC.out]; exact HST.out)).1
                simp at this)
              exact ⟨none, 0, 0, by rw [HF.1]; rfl, by rw [HF.2]; exact OwnNt.nil _ _, HBW.out⟩
            | true =>
              have HNX : Hid (RunS cells (k + 1) (P ++ [⟨p, f⟩]) (if 0 ≤ p then p else la)) := .plain HRUN.out (by rw [HN.out]; exact hlt) (by rw [HC.out, HN.out]; exact HPL.out) (by rw [HC.out]; exact hno)
              clear hno
              have hA2 := noteAt_alloc (w3.alloc (.cells #[.int .i64 p, .int .i64 f] 35)) ⟨p, f⟩
              have hsx : (w3.alloc (.cells #[.int .i64 p, .int .i64 f] 35)).heap.size = w3.heap.size + 1 := by simp
              rw [hsx] at hA2
              have HA2 := keptN hA2
              have HOA := keptN (HOW.out.below ((Below.refl _ _).alloc (Nat.le_refl _) (.cells #[.int .i64 p, .int .i64 f] 35)))
              have hs9 : w.heap.size ≤ ((w3.alloc (.cells #[.int .i64 p, .int .i64 f] 35)).alloc (.cells #[.int .i64 p, .int .i64 f] 35)).heap.size := by have := HBW.out.size; rw [World.size_alloc]; omega
              have HS9 := keptN hs9
              clear hA2 hs9 hsx
              by_cases hp : 0 ≤ p
              · have dp : decide (0 ≤ p) = true := decide_eq_true hp
                have HNX2 : Hid (RunS cells (k + 1) (P ++ [⟨p, f⟩]) p) := by have := HNX.out; rw [if_pos hp] at this; exact this
                go_wp2_with (at_builtin; go_loud (refine wpList_append_note rfl _ _ rfl w.heap.size (w3.heap.size + 1) ⟨p, f⟩ rfl rfl HOA.out HA2.out (by omega) HS9.out ?_))
                intro v7 w7 hO7 hg7
                have hB7 := grown_nt HBW.out HBW.out.size HOW.out hg7
                have NXT := keptN (And.intro hO7 hB7)
                clear hO7 hg7 hB7 HOA HA2 HOW HBW
                go_wp2
                go_roundw
                case rel => exact ⟨k + 1, _, p, by omega, by go_num, rfl, HNX2.out, NXT.out.1, NXT.out.2⟩
                case measure => simp [intOf]; omega
              · have dp : decide (0 ≤ p) = false := decide_eq_false hp
                have HNX2 : Hid (RunS cells (k + 1) (P ++ [⟨p, f⟩]) la) := by have := HNX.out; rw [if_neg hp] at this; exact this
                go_wp2_with (at_builtin; go_loud (refine wpList_append_note rfl _ _ rfl w.heap.size (w3.heap.size + 1) ⟨p, f⟩ rfl rfl HOA.out HA2.out (by omega) HS9.out ?_))
                intro v7 w7 hO7 hg7
                have hB7 := grown_nt HBW.out HBW.out.size HOW.out hg7
                have NXT := keptN (And.intro hO7 hB7)
                clear hO7 hg7 hB7 HOA HA2 HOW HBW
                go_wp2
                go_roundw
                case rel => exact ⟨k + 1, _, la, by omega, by go_num, rfl, HNX2.out, NXT.out.1, NXT.out.2⟩
                case measure => simp [intOf]; omega
        · have d0 : decide (0 ≤ r) = false := decide_eq_false hr0
          have HPL : Hid (c ∉ octL ∨ ¬ k + 1 < n) := .inl (by
            rcases hroct with ⟨h, _⟩ | ⟨_, h⟩
            · omega
            · exact h)
          clear hroct
          have HOW := keptN (HOX.out.below ((Below.refl _ _).alloc (Nat.le_refl _) (.cells #[.int .i64 p, .int .i64 f] 35)))
          have HBW := keptN (HBX.out.alloc HBX.out.size (.cells #[.int .i64 p, .int .i64 f] 35))
          cases ok with
          | false =>
            have HST := keptN hno
            clear hno
            go_wp2
            refine bodyPost_ret (results_twoN rfl _ _ _) rfl ?_
            have HF := hr.out.no (fun P' h1 h2 => by
              subst h2
              have := (plain_step h1 (runS_at h1 HRUN.out) (by rw [HN.out]; exact hlt) (by rw [HC.out, HN.out]; exact HPL.out) (by rw [HC.out]; exact HST.out)).1
              simp at this)
            exact ⟨none, 0, 0, by rw [HF.1]; rfl, by rw [HF.2]; exact OwnNt.nil _ _, HBW.out⟩
          | true =>
            have HNX : Hid (RunS cells (k + 1) (P ++ [⟨p, f⟩]) (if 0 ≤ p then p else la)) := .plain HRUN.out (by rw [HN.out]; exact hlt) (by rw [HC.out, HN.out]; exact HPL.out) (by rw [HC.out]; exact hno)
            clear hno
            have hA2 := noteAt_alloc (w3.alloc (.cells #[.int .i64 p, .int .i64 f] 35)) ⟨p, f⟩
            have hsx : (w3.alloc (.cells #[.int .i64 p, .int .i64 f] 35)).heap.size = w3.heap.size + 1 := by simp
            rw [hsx] at hA2
            have HA2 := keptN hA2
            have HOA := keptN (HOW.out.below ((Below.refl _ _).alloc (Nat.le_refl _) (.cells #[.int .i64 p, .int .i64 f] 35)))
            have hs9 : w.heap.size ≤ ((w3.alloc (.cells #[.int .i64 p, .int .i64 f] 35)).alloc (.cells #[.int .i64 p, .int .i64 f] 35)).heap.size := by have := HBW.out.size; rw [World.size_alloc]; omega
            have HS9 := keptN hs9
            clear hA2 hs9 hsx
            by_cases hp : 0 ≤ p
            · have dp : decide (0 ≤ p) = true := decide_eq_true hp
              have HNX2 : Hid (RunS cells (k + 1) (P ++ [⟨p, f⟩]) p) := by have := HNX.out; rw [if_pos hp] at this; exact this
              go_wp2_with (at_builtin; go_loud (refine wpList_append_note rfl _ _ rfl w.heap.size (w3.heap.size + 1) ⟨p, f⟩ rfl rfl HOA.out HA2.out (by omega) HS9.out ?_))
              intro v7 w7 hO7 hg7
              have hB7 := grown_nt HBW.out HBW.out.size HOW.out hg7
              have NXT := keptN (And.intro hO7 hB7)
              clear hO7 hg7 hB7 HOA HA2 HOW HBW
              go_wp2
              go_roundw
              case rel => exact ⟨k + 1, _, p, by omega, by go_num, rfl, HNX2.out, NXT.out.1, NXT.out.2⟩
              case measure => simp [intOf]; omega
            · have dp : decide (0 ≤ p) = false := decide_eq_false hp
              have HNX2 : Hid (RunS cells (k + 1) (P ++ [⟨p, f⟩]) la) := by have := HNX.out; rw [if_neg hp] at this; exact this
              go_wp2_with (at_builtin; go_loud (refine wpList_append_note rfl _ _ rfl w.heap.size (w3.heap.size + 1) ⟨p, f⟩ rfl rfl HOA.out HA2.out (by omega) HS9.out ?_))
              intro v7 w7 hO7 hg7
              have hB7 := grown_nt HBW.out HBW.out.size HOW.out hg7
              have NXT := keptN (And.intro hO7 hB7)
              clear hO7 hg7 hB7 HOA HA2 HOW HBW
              go_wp2
              go_roundw
              case rel => exact ⟨k + 1, _, la, by omega, by go_num, rfl, HNX2.out, NXT.out.1, NXT.out.2⟩
              case measure => simp [intOf]; omega
      · obtain rfl : k = n := by omega
        have HRUN := keptN hrun
        have HO := keptN hO
        have HB := keptN hb1
        have hX9 := HX.out.below hb1
        have HX9 := keptN hX9
        clear hrun hO hb1 hX9
        by_cases hq : NtsOk P
        · have H3 : Hid (BIs true (NtsOk P)) := bisY hq
          have HQ := keptN hq
          go_wp2_with fail
          refine (s_validNotes_b wr _ P true HO.out.at H3).mono ?_
          rintro e w2 ⟨rfl, hb2⟩
          have HB2 := keptN (HB.out.trans (hb2.mono HB.out.size))
          have HO2 := keptN (HO.out.below hb2)
          have HX2 := keptN (HX9.out.below hb2)
          clear hb2 HB HO HX9
          go_wp2_with fail
          refine (s_musicCells w2 _ P HO2.out.at HQ).mono ?_
          rintro e w3 ⟨a3, n3, c3, rfl, hI3, hb3⟩
          have HI3 := keptN hI3.at
          have HB3 := keptN (HB2.out.trans (hb3.mono HB2.out.size))
          have HO3 := keptN (HO2.out.below hb3)
          have HX3 := keptN (HX2.out.below hb3)
          clear hI3 hb3 HB2 HO2 HX2
          by_cases hMc : musTo P P.length = cells
          · have HS : Hid (decide (musTo P P.length = cells) = true) := decide_eq_true hMc
            have HF := keptN (hr.out.yes hq hMc (fun P' h1 h2 => by
              have hrn := HRUN.out
              rw [show k = cells.length from HN.out.symm, ← h2] at hrn
              exact (at_endS h1 (runS_at h1 hrn)).symm))
            clear hMc hq
            go_wp2_with fail
            refine (s_sameInts_b w3 _ _ _ cells true HI3.out HX3.out HS).mono ?_
            rintro e w4 ⟨rfl, hb4⟩
            have HO4 := keptN (HO3.out.below hb4)
            have HB4 := keptN (HB3.out.trans (hb4.mono HB3.out.size))
            clear hb4 HO3 HB3
            go_wp2
            refine bodyPost_ret (results_twoN rfl _ _ _) rfl ?_
            exact ⟨_, _, _, by rw [HF.out.1]; rfl, by rw [HF.out.2]; exact HO4.out, HB4.out⟩
          · have HS : Hid (decide (musTo P P.length = cells) = false) := decide_eq_false hMc
            have HF := keptN (hr.out.no (fun P' h1 h2 => by
              have hrn := HRUN.out
              rw [show k = cells.length from HN.out.symm, ← h2] at hrn
              have hqp := at_endS h1 (runS_at h1 hrn)
              subst hqp
              exact hMc h2))
            clear hMc hq
            go_wp2_with fail
            refine (s_sameInts_b w3 _ _ _ cells false HI3.out HX3.out HS).mono ?_
            rintro e w4 ⟨rfl, hb4⟩
            have HB4 := keptN (HB3.out.trans (hb4.mono HB3.out.size))
            clear hb4 HO3 HB3
            go_wp2
            refine bodyPost_ret (results_twoN rfl _ _ _) rfl ?_
            exact ⟨none, 0, 0, by rw [HF.out.1]; rfl, by rw [HF.out.2]; exact OwnNt.nil _ _, HB4.out⟩
        · have H3 : Hid (BIs false (NtsOk P)) := bisN hq
          have HF := keptN (hr.out.no (fun P' h1 h2 => by
            have hrn := HRUN.out
            rw [show k = cells.length from HN.out.symm, ← h2] at hrn
            have hqp := at_endS h1 (runS_at h1 hrn)
            subst hqp
            exact hq h1))
          clear hq
          go_wp2_with fail
          refine (s_validNotes_b wr _ P false HO.out.at H3).mono ?_
          rintro e w2 ⟨rfl, hb2⟩
          have HB2 := keptN (HB.out.trans (hb2.mono HB.out.size))
          clear hb2 HB HO HX9
          go_wp2
          refine bodyPost_ret (results_twoN rfl _ _ _) rfl ?_
          exact ⟨none, 0, 0, by rw [HF.out.1]; rfl, by rw [HF.out.2]; exact OwnNt.nil _ _, HB2.out⟩
  · have HV : Hid (decide (ValidL cells) = false) := decide_eq_false hv
    have HF := keptN (hr.out.no (fun P' h1 h2 => hv (by rw [← h2]; exact mus_valid h1)))
    have HB0 := keptN ((Below.refl w.heap.size w).alloc (Nat.le_refl _) (.cells #[] 35))
    have HX1 := keptN (HX.out.below HB0.out)
    clear hv hn
    go_enter Try.func18, Try.ntmps18
    go_wp2_with fail
    refine (s_validCells_m _ _ cells false HX1.out HV).mono ?_
    rintro e w' ⟨rfl, rfl⟩
    go_wp2
    refine bodyPost_ret (results_twoN rfl _ _ _) rfl ?_
    exact ⟨none, 0, 0, by rw [HF.out.1]; rfl, by rw [HF.out.2]; exact OwnNt.nil _ _, HB0.out⟩
end Go.Proofs.Ytfofjjfnejigaaa
