
/- The least costs: the document's side. -/
import Derived.Test.YtnbppackijjohaaNa
import Derived.Test.YtnbppackijjohaaLe
import Derived.Test.YtnbppackijjohaaOwnS
import Derived.Test.YtnbppackijjohaaExS
import Derived.Test.YtnbppackijjohaaLo
namespace Go.Proofs.Ytnbppackijjohaa
open Go.RowKit

theorem full_any {W : Int} {S : List (List Int)} : ∀ d c, S.length - c = d → 1 ≤ c → c ≤ S.length → Fit W S c → ∃ c', Full W S c' := by
  intro d
  induction d with
  | zero => intro c hd h1 h2 h3; exact ⟨c, h1, h2, h3, .inl (by omega)⟩
  | succ d ih =>
    intro c hd h1 h2 h3
    by_cases hp : ((pack (S.take (c + 1))).length : Int) ≤ W
    · exact ih (c + 1) (by omega) (by omega) (by omega) (h3.succ (p := (pack (S.take (c + 1))).length) rfl hp)
    · exact ⟨c, h1, h2, h3, .inr (by omega)⟩
/-- of 1 .. c - 1 words on the first line the least cost is m -/
def MinLow (W : Int) (S : List (List Int)) (A : Nat → Int) (c : Nat) (m : Int) : Prop := (∃ d, 1 ≤ d ∧ d < c ∧ stepC W S A d = m) ∧ ∀ x, 1 ≤ x → x < c → m ≤ stepC W S A x
theorem MinLow.one (W : Int) (S : List (List Int)) (A : Nat → Int) : MinLow W S A 2 (stepC W S A 1) := ⟨⟨1, by omega, by omega, rfl⟩, fun x h1 h2 => by rw [show x = 1 from by omega]; exact Int.le_refl _⟩
theorem MinLow.less {W : Int} {S : List (List Int)} {A : Nat → Int} {c : Nat} {m : Int} (h : MinLow W S A c m) (h1 : 1 ≤ c) (k : stepC W S A c < m) : MinLow W S A (c + 1) (stepC W S A c) :=
  ⟨⟨c, h1, by omega, rfl⟩, fun x x1 x2 => by
    by_cases e : x = c
    · subst e; exact Int.le_refl _
    · have := h.2 x x1 (by omega); omega⟩
theorem MinLow.more {W : Int} {S : List (List Int)} {A : Nat → Int} {c : Nat} {m : Int} (h : MinLow W S A c m) (k : ¬ stepC W S A c < m) : MinLow W S A (c + 1) m := by
  obtain ⟨⟨d, d1, d2, d3⟩, h2⟩ := h
  refine ⟨⟨d, d1, by omega, d3⟩, fun x x1 x2 => ?_⟩
  by_cases e : x = c
  · subst e; omega
  · exact h2 x x1 (by omega)
theorem MinLow.isMin {W : Int} {S : List (List Int)} {A : Nat → Int} {f : Nat} {m : Int} (h : MinLow W S A (f + 1) m) : IsMin W S A f m := by
  obtain ⟨⟨d, d1, d2, d3⟩, h2⟩ := h
  exact ⟨⟨d, d1, by omega, d3⟩, fun x x1 x2 => h2 x x1 (by omega)⟩
/-- what the array holds while the place i is worked on, before c words on the first line -/
def RowSt (W : Int) (L : List (List Int)) (zs arr : List Int) (i c : Nat) : Prop :=
  (c = 1 ∧ arr = zs) ∨ (2 ≤ c ∧ ∃ m, arr = zs.set i m ∧ MinLow W (L.drop i) (arrA zs L.length) c m ∧ 0 ≤ m ∧ m ≤ 1600 * (L.length - i : Nat))
theorem RowSt.behind {W : Int} {L : List (List Int)} {zs arr : List Int} {i c j : Nat} (h : RowSt W L zs arr i c) (hj : i < j) : arr.getD j 0 = zs.getD j 0 := by
  rcases h with ⟨_, rfl⟩ | ⟨_, m, rfl, _⟩
  · rfl
  · rw [List.getD_eq_getElem?_getD, List.getElem?_set_ne (by omega), ← List.getD_eq_getElem?_getD]
theorem RowSt.length {W : Int} {L : List (List Int)} {zs arr : List Int} {i c : Nat} (h : RowSt W L zs arr i c) : arr.length = zs.length := by
  rcases h with ⟨_, rfl⟩ | ⟨_, m, rfl, _⟩
  · rfl
  · rw [List.length_set]
theorem row_done {W : Int} {L : List (List Int)} {zs arr : List Int} {i f : Nat} (hi : i < L.length) (hz : L.length < zs.length) (hC : CostsUp W L (arrA zs L.length) (i + 1)) (hF : Full W (L.drop i) f) (hS : SmallA zs L.length) (h : RowSt W L zs arr i (f + 1)) :
    CostsUp W L (arrA arr L.length) i ∧ SmallA arr L.length := by
  have hf1 := hF.1
  rcases h with ⟨h1, _⟩ | ⟨_, m, rfl, hM, h3, h4⟩
  · omega
  · have hat : arrA (zs.set i m) L.length (L.length - i) = m := arrA_at (by omega) (by omega)
    refine ⟨(hC.congr fun x hx => (arrA_set (by omega)).symm).down hF ?_, hS.set h3 h4⟩
    rw [hat]
    exact hM.isMin.congr hF.2.1 fun x hx => (arrA_set (by rw [List.length_drop] at hx; omega)).symm
def CostsMade (L : List (List Int)) (W : Int) (n1 : Nat) (w : World) (e : Ending) (w' : World) : Prop :=
  ∃ zs : List Int, e = .returned (.slice (some ⟨w.heap.size, 0, none⟩) n1 n1) ∧ OwnInts w' w.heap.size (.slice (some ⟨w.heap.size, 0, none⟩) n1 n1) zs ∧ zs.length = n1 ∧ SmallA zs L.length ∧ CostsUp W L (arrA zs L.length) 0 ∧ Below w.heap.size w w'
set_option maxHeartbeats 3000000 in
theorem s_costFrom (w : World) (v : Value) (L : List (List Int)) (W : Int) (n1 : Nat) (hx : ListsAt w v L) (hok : Hid (FillOk L W)) (h1 : Hid (L.length + 1 = n1)) :
    Calls Try.prog 53 #[v, .int .i64 W] w fun e w' => CostsMade L W n1 w e w' := by
  obtain ⟨i0, hi, hz0, hz1, hz2⟩ := info_parts infoInt
  have HX := keptL hx
  obtain ⟨a, cp, rfl, x1, x2, x4⟩ := hx
  obtain ⟨n, hn⟩ : ∃ n, L.length = n := ⟨_, rfl⟩
  rw [hn] at x1 HX ⊢
  have HN := Lib.hid hn
  have hn30 : n ≤ 30 := by have := hok.out.1; omega
  have hW40 := hok.out.2.1.2
  have H1 : Hid (n + 1 = n1) := by have := h1.out; rw [hn] at this; exact this
  have hn31 : n1 ≤ 31 := by have := H1.out; omega
  have u0 : IntKind.i64.wrap ((n : Int) + 1) = (n1 : Int) := by rw [← H1.out]; exact IntWalk.i64_in _ (by omega)
  have HCN : ∀ A, CostsUp W L A n := fun A => by rw [← hn]; exact CostsUp.none _ _ _
  clear hn x4 h1
  go_enter Try.func53, Try.ntmps53
  go_wp2_with (at_make; refine wpList_make_full _ rfl _ _ 28 rfl w.heap.size 3 i0 (.int .i64 0) 1 Try.underlying28 hi hz0 hz1 .i64 .i64 n1 n1 n1 rfl rfl rfl rfl (by rw [hz2]; omega) (by unfold maxLen; omega) (Nat.le_refl _) ?_)
  intro w1 hown hgr
  have hB1 : Below w.heap.size w w1 := ⟨hgr.os, hgr.tape, hgr.output, hgr.size, fun k hk => hgr.block k hk (by simp)⟩
  have hO1 : OwnInts w1 w.heap.size (.slice (some ⟨w.heap.size, 0, none⟩) n1 n1) (List.replicate n1 0) := by
    unfold OwnInts
    rw [List.length_replicate, ← made_ints]
    exact hown
  have HO1 := keptL hO1
  have HB1 := keptL hB1
  have HS1 : Hid (SmallA (List.replicate n1 0) n) := SmallA.zero _ _
  have u1 : IntKind.i64.wrap ((n : Int) - 1) = (n : Int) - 1 := IntWalk.i64_in _ (by omega)
  clear hown hgr hB1 hO1 hi hz0 hz1 hz2 u0
  go_wp2
  go_loopw [6] (fun y wr => ∃ (k : Nat) (q : Int) (zs : List Int), k ≤ n ∧ y = .int .i64 q ∧ q = (k : Int) - 1 ∧ Hid (OwnInts wr w.heap.size (.slice (some ⟨w.heap.size, 0, none⟩) n1 n1) zs) ∧ Hid (Below w.heap.size w wr) ∧ Hid (zs.length = n1) ∧ Hid (SmallA zs n) ∧ Hid (CostsUp W L (arrA zs n) k)) (fun y _ => (intOf y + 1).toNat)
  case atStart => exact ⟨n, _, List.replicate n1 0, Nat.le_refl _, by go_num, rfl, HO1, HB1, List.length_replicate, HS1, HCN _⟩
  case round =>
    clear HO1 HB1 HS1 HCN u1
    obtain ⟨wo, rfl⟩ : ∃ wo, wo = wr := ⟨wr, rfl⟩
    obtain ⟨k, q, zs, hk, rfl, hq, HO, HB, HZL, HSM, HC⟩ := hrel
    by_cases hlt : 0 < k
    · obtain ⟨i, rfl⟩ : ∃ i, k = i + 1 := ⟨k - 1, by omega⟩
      obtain rfl : q = (i : Int) := by omega
      clear hq
      have d0 : decide ((0 : Int) ≤ (i : Int)) = true := decide_eq_true (by omega)
      have hin : i < n := by omega
      obtain ⟨f, hF⟩ := full_any (W := W) (S := L.drop i) _ 1 rfl (Nat.le_refl _) (by rw [List.length_drop, HN.out]; omega) (Fit.one _ _)
      have HF := keptL hF
      have hf1 := hF.1
      have hf2 : i + f ≤ n := by have := hF.2.1; rw [List.length_drop, HN.out] at this; omega
      have HR0 : Hid (RowSt W L zs zs i 1) := .inl ⟨rfl, rfl⟩
      obtain ⟨g, off, u, rfl, hh1, hh2⟩ := HX.out.someNth hin
      clear hF hh1 hh2
      go_wp2
      go_loopw [7] (fun y wr => ∃ (c : Nat) (arr : List Int), 1 ≤ c ∧ c ≤ f + 1 ∧ y = .int .i64 ((i : Int) + (c : Int)) ∧ Hid (RowSt W L zs arr i c) ∧ Hid (OwnInts wr w.heap.size (.slice (some ⟨w.heap.size, 0, none⟩) n1 n1) arr) ∧ Hid (Below w.heap.size w wr)) (fun y _ => n + 2 - (intOf y).toNat)
      case atStart => exact ⟨1, zs, Nat.le_refl _, by omega, by go_num, HR0, HO, HB⟩
      case round =>
        clear HR0 HO HB
        obtain ⟨wi, rfl⟩ : ∃ wi, wi = wr := ⟨wr, rfl⟩
        obtain ⟨c, arr, hc0, hcf, rfl, HRS, HO, HB⟩ := hrel
        have hal : arr.length = n1 := by rw [HRS.out.length]; exact HZL.out
        have HAL := Lib.hid hal
        have hszi := HB.out.size
        have h1n := H1.out
        have HXi : Hid (ListsAt wi (.slice (some ⟨g, off, none⟩) n cp) L) := HX.out.below HB.out
        have b1 : (0 : Int) ≤ (i : Int) := by omega
        clear hal
        by_cases hcn : i + c ≤ n
        · have d1 : decide ((i : Int) + (c : Int) ≤ (n : Int)) = true := decide_eq_true (by omega)
          have HS : Hid (ListsAt wi (.slice (some ⟨g, off + i, none⟩) c (cp - i)) ((L.drop i).take c)) := (HXi.out.dropL i (by omega)).take c (by omega)
          have hl : ((L.drop i).take c).length = c := by rw [List.length_take, List.length_drop, HN.out]; omega
          go_wp2_with fail
          refine (s_pack wi _ _ HS.out (by omega) ((hok.out.len.drop _).take _) ((hok.out.min.drop _).take _)).mono ?_
          rintro e w3 ⟨a6, p, c6, rfl, hI, hb3⟩
          have hp : (pack ((L.drop i).take c)).length = p := by
            obtain ⟨_, _, e, _⟩ := hI.at
            injection e with _ e2 _
            exact e2.symm
          have HP := Lib.hid hp
          have HO3 := keptL (HO.out.below hb3)
          have HB3 := keptL (below_nextL HB.out hszi hb3)
          clear hI hb3 HO HB hp HXi HS
          by_cases hcf2 : c ≤ f
          · have hpW : (p : Int) ≤ W := by rw [← HP.out]; exact fit_len HF.out.2.2.1 (fun x hx => (hok.out.2.2.all x (List.mem_of_mem_drop hx)).2.1) hc0 hcf2 (by rw [List.length_drop, HN.out]; omega)
            have dp : decide ((p : Int) ≤ W) = true := decide_eq_true hpW
            have cc := HO3.out.cell (by rw [HAL.out]) (k := i + c) (by omega)
            rw [HRS.out.behind (by omega)] at cc
            obtain ⟨y, hy⟩ : ∃ y, zs.getD (i + c) 0 = y := ⟨_, rfl⟩
            rw [hy] at cc
            have hyb := HSM.out (i + c)
            rw [hy] at hyb
            obtain ⟨r, hr⟩ : ∃ r, stepC W (L.drop i) (arrA zs n) c = r := ⟨_, rfl⟩
            have hrb := stepC_small (S := L.drop i) HSM.out hW40 (by rw [List.length_drop, HN.out]; omega) hc0 (by rw [List.length_drop, HN.out]; omega) (by rw [HP.out]; exact hpW)
            rw [hr, List.length_drop, HN.out] at hrb
            have HR := Lib.hid hr
            have b2 : (0 : Int) ≤ (i : Int) + (c : Int) := by omega
            have b3 : (i : Int) + (c : Int) < (n1 : Int) := by omega
            have t3 : ((i : Int) + (c : Int)).toNat = i + c := by omega
            by_cases hcl : i + c < n
            · have d3 : decide ((i : Int) + (c : Int) < (n : Int)) = true := decide_eq_true (by omega)
              obtain ⟨s, hs⟩ : ∃ s, (W - (p : Int)) * (W - (p : Int)) = s := ⟨_, rfl⟩
              have HSQ := Lib.hid hs
              obtain ⟨_, _, _, _, hs0, hs1⟩ := sq_nat HSQ hpW hW40
              have hrs : y + s = r := by
                rw [← hr]
                unfold stepC arrA
                rw [if_neg (by rw [List.length_drop, HN.out]; omega), List.length_drop, HN.out, show n - (n - i - c) = i + c from by omega, hy]
                unfold sqFree
                rw [HP.out, hs]; omega
              have u3 : IntKind.i64.wrap (y + s) = r := by rw [hrs]; exact IntWalk.i64_in _ (by omega)
              have HX3 : Hid (ListsAt w3 (.slice (some ⟨g, off + i, none⟩) c (cp - i)) ((L.drop i).take c)) := ((HX.out.below HB3.out).dropL i (by omega)).take c (by omega)
              clear hs hr hrs hy
              go_wp2_with fail
              refine (s_pack w3 _ _ HX3.out (by omega) ((hok.out.len.drop _).take _) ((hok.out.min.drop _).take _)).mono ?_
              rintro e w4 ⟨a7, p7, c7, rfl, hI, hb4⟩
              have hp7 : p7 = p := by
                obtain ⟨_, _, e, _⟩ := hI.at
                injection e with _ e2 _
                rw [e2]; exact HP.out
              subst hp7
              have HOW := keptL (HO3.out.below hb4)
              have HBW := keptL (below_nextL HB3.out HB3.out.size hb4)
              clear hI hb4 HX3 cc
              go_wp2_with fail
              refine (s_spare w4 _ p7 _ W s HSQ hpW hW40).mono ?_
              rintro e w5 ⟨rfl, rfl⟩
              have ci := HOW.out.cell (by rw [HAL.out]) (k := i) (by omega)
              have fi := HOW.out.free (by rw [HAL.out]) i
              by_cases hc1 : c = 1
              · subst hc1
                have HR' : Hid (RowSt W L zs (arr.set i r) i (1 + 1)) := by
                  rcases HRS.out with ⟨_, rfl⟩ | ⟨h2, _⟩
                  · exact .inr ⟨by omega, r, rfl, by rw [HN.out, ← HR.out]; exact MinLow.one _ _ _, by rw [HN.out]; exact hrb⟩
                  · omega
                have HO' := keptL (HOW.out.store (by rw [HAL.out]) i r)
                have HB' := keptL (HBW.out.setCell (p := ⟨w.heap.size, i, none⟩) (Nat.le_refl _) (.int .i64 r))
                have e1 : ((i : Int) + 1 == (i : Int) + 1) = true := by simp
                clear HOW HBW HRS HR hrb
                go_wp2
                go_roundw
                case rel => exact ⟨1 + 1, arr.set i r, by omega, by omega, by go_num, HR', HO', HB'⟩
                case measure => simp [intOf] <;> omega
              · have e1 : ((i : Int) + (c : Int) == (i : Int) + 1) = false := by simp; omega
                obtain ⟨m, HAR, HMM, hm0⟩ : ∃ m, Hid (arr = zs.set i m) ∧ Hid (MinLow W (L.drop i) (arrA zs n) c m) ∧ (0 ≤ m ∧ m ≤ 1600 * (n - i : Nat)) := by
                  rcases HRS.out with ⟨h2, _⟩ | ⟨_, m, h3, h4, h5⟩
                  · exact absurd h2 hc1
                  · exact ⟨m, h3, by rw [← HN.out]; exact h4, by rw [← HN.out]; exact h5⟩
                have harr : arr.getD i 0 = m := by
                  rw [HAR.out, List.getD_eq_getElem?_getD, List.getElem?_set_self (by rw [HZL.out]; have := H1.out; omega)]; rfl
                rw [harr] at ci
                clear harr
                by_cases hrm : r < m
                · have d2 : decide (r < m) = true := decide_eq_true hrm
                  have HR' : Hid (RowSt W L zs (arr.set i r) i (c + 1)) := .inr ⟨by omega, r, by rw [HAR.out, List.set_set], by
                    have := HMM.out.less hc0 (by rw [HR.out]; exact hrm)
                    rw [HR.out] at this; rw [HN.out]; exact this, by rw [HN.out]; exact hrb⟩
                  have HO' := keptL (HOW.out.store (by rw [HAL.out]) i r)
                  have HB' := keptL (HBW.out.setCell (p := ⟨w.heap.size, i, none⟩) (Nat.le_refl _) (.int .i64 r))
                  clear HOW HBW HRS HR hrb HMM HAR
                  go_wp2
                  go_roundw
                  case rel => exact ⟨c + 1, arr.set i r, by omega, by omega, by go_num, HR', HO', HB'⟩
                  case measure => simp [intOf] <;> omega
                · have d2 : decide (r < m) = false := decide_eq_false hrm
                  have HR' : Hid (RowSt W L zs arr i (c + 1)) := .inr ⟨by omega, m, HAR.out, by
                    rw [HN.out]; exact HMM.out.more (by rw [HR.out]; exact hrm), by rw [HN.out]; exact hm0⟩
                  clear HRS HR hrb HMM HAR
                  go_wp2
                  go_roundw
                  case rel => exact ⟨c + 1, arr, by omega, by omega, by go_num, HR', HOW, HBW⟩
                  case measure => simp [intOf] <;> omega
            · have d3 : decide ((i : Int) + (c : Int) < (n : Int)) = false := decide_eq_false (by omega)
              have hry : r = y := by
                have h6 : r = 0 := by
                  rw [← hr]; unfold stepC
                  rw [if_pos (by rw [List.length_drop, HN.out]; omega)]
                have h7 : n - (i + c) = 0 := by omega
                rw [h7] at hyb
                omega
              subst hry
              have HOW := keptL HO3.out
              have HBW := keptL HB3.out
              clear hr hy
              have ci := HOW.out.cell (by rw [HAL.out]) (k := i) (by omega)
              have fi := HOW.out.free (by rw [HAL.out]) i
              by_cases hc1 : c = 1
              · subst hc1
                have HR' : Hid (RowSt W L zs (arr.set i r) i (1 + 1)) := by
                  rcases HRS.out with ⟨_, rfl⟩ | ⟨h2, _⟩
                  · exact .inr ⟨by omega, r, rfl, by rw [HN.out, ← HR.out]; exact MinLow.one _ _ _, by rw [HN.out]; exact hrb⟩
                  · omega
                have HO' := keptL (HOW.out.store (by rw [HAL.out]) i r)
                have HB' := keptL (HBW.out.setCell (p := ⟨w.heap.size, i, none⟩) (Nat.le_refl _) (.int .i64 r))
                have e1 : ((i : Int) + 1 == (i : Int) + 1) = true := by simp
                clear HOW HBW HRS HR hrb
                go_wp2
                go_roundw
                case rel => exact ⟨1 + 1, arr.set i r, by omega, by omega, by go_num, HR', HO', HB'⟩
                case measure => simp [intOf] <;> omega
              · have e1 : ((i : Int) + (c : Int) == (i : Int) + 1) = false := by simp; omega
                obtain ⟨m, HAR, HMM, hm0⟩ : ∃ m, Hid (arr = zs.set i m) ∧ Hid (MinLow W (L.drop i) (arrA zs n) c m) ∧ (0 ≤ m ∧ m ≤ 1600 * (n - i : Nat)) := by
                  rcases HRS.out with ⟨h2, _⟩ | ⟨_, m, h3, h4, h5⟩
                  · exact absurd h2 hc1
                  · exact ⟨m, h3, by rw [← HN.out]; exact h4, by rw [← HN.out]; exact h5⟩
                have harr : arr.getD i 0 = m := by
                  rw [HAR.out, List.getD_eq_getElem?_getD, List.getElem?_set_self (by rw [HZL.out]; have := H1.out; omega)]; rfl
                rw [harr] at ci
                clear harr
                by_cases hrm : r < m
                · have d2 : decide (r < m) = true := decide_eq_true hrm
                  have HR' : Hid (RowSt W L zs (arr.set i r) i (c + 1)) := .inr ⟨by omega, r, by rw [HAR.out, List.set_set], by
                    have := HMM.out.less hc0 (by rw [HR.out]; exact hrm)
                    rw [HR.out] at this; rw [HN.out]; exact this, by rw [HN.out]; exact hrb⟩
                  have HO' := keptL (HOW.out.store (by rw [HAL.out]) i r)
                  have HB' := keptL (HBW.out.setCell (p := ⟨w.heap.size, i, none⟩) (Nat.le_refl _) (.int .i64 r))
                  clear HOW HBW HRS HR hrb HMM HAR
                  go_wp2
                  go_roundw
                  case rel => exact ⟨c + 1, arr.set i r, by omega, by omega, by go_num, HR', HO', HB'⟩
                  case measure => simp [intOf] <;> omega
                · have d2 : decide (r < m) = false := decide_eq_false hrm
                  have HR' : Hid (RowSt W L zs arr i (c + 1)) := .inr ⟨by omega, m, HAR.out, by
                    rw [HN.out]; exact HMM.out.more (by rw [HR.out]; exact hrm), by rw [HN.out]; exact hm0⟩
                  clear HRS HR hrb HMM HAR
                  go_wp2
                  go_roundw
                  case rel => exact ⟨c + 1, arr, by omega, by omega, by go_num, HR', HOW, HBW⟩
                  case measure => simp [intOf] <;> omega
          · obtain rfl : c = f + 1 := by omega
            have hpW : ¬ (p : Int) ≤ W := by
              rcases HF.out.2.2.2 with h6 | h6
              · rw [List.length_drop, HN.out] at h6; omega
              · rw [HP.out] at h6; omega
            have dp : decide ((p : Int) ≤ W) = false := decide_eq_false hpW
            have hdone := row_done (W := W) (L := L) (zs := zs) (arr := arr) (i := i) (f := f) (by rw [HN.out]; exact hin) (by rw [HN.out, HZL.out]; omega) (by rw [HN.out]; exact HC.out) HF.out (by rw [HN.out]; exact HSM.out) HRS.out
            rw [HN.out] at hdone
            have HD1 := keptL hdone.1
            have HD2 := keptL hdone.2
            clear hdone HRS HC HSM
            go_wp2
            go_roundw
            case rel => exact ⟨i, (i : Int) - 1, arr, by omega, by go_num, rfl, HO3, HB3, HAL, HD2, HD1⟩
            case measure => simp [intOf] <;> omega
        · have d1 : decide ((i : Int) + (c : Int) ≤ (n : Int)) = false := decide_eq_false (by omega)
          obtain rfl : c = f + 1 := by omega
          have hdone := row_done (W := W) (L := L) (zs := zs) (arr := arr) (i := i) (f := f) (by rw [HN.out]; exact hin) (by rw [HN.out, HZL.out]; omega) (by rw [HN.out]; exact HC.out) HF.out (by rw [HN.out]; exact HSM.out) HRS.out
          rw [HN.out] at hdone
          have HD1 := keptL hdone.1
          have HD2 := keptL hdone.2
          clear hdone HRS HC HSM
          go_wp2
          go_roundw
          case rel => exact ⟨i, (i : Int) - 1, arr, by omega, by go_num, rfl, HO, HB, HAL, HD2, HD1⟩
          case measure => simp [intOf] <;> omega
    · obtain rfl : k = 0 := by omega
      obtain rfl : q = -1 := by omega
      clear hq
      have HCF : Hid (CostsUp W L (arrA zs L.length) 0) := by show CostsUp _ _ _ _; rw [HN.out]; exact HC.out
      have HSF : Hid (SmallA zs L.length) := by show SmallA _ _; rw [HN.out]; exact HSM.out
      clear HC HSM
      go_wp2
      go_ret
      exact ⟨zs, rfl, HO.out, HZL.out, HSF.out, HCF.out, HB.out⟩
end Go.Proofs.Ytnbppackijjohaa
