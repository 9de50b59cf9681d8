
/- The best lines: the document's side. -/
import Derived.Test.YtnbppackijjohaaNe
import Derived.Test.YtnbppackijjohaaLi
namespace Go.Proofs.Ytnbppackijjohaa
open Go.RowKit

theorem OwnLs.lowerN {w : World} {base base' : Nat} {v : Value} {L : List (List Int)} (h : OwnLs w base 0 v L) (hb : base' ≤ base) : OwnLs w base' 0 v L := by
  obtain ⟨_, us, h1, h2⟩ := h
  refine ⟨Nat.zero_le _, us, ?_, h2⟩
  rcases h1 with ⟨q0, ⟨hv, hn⟩ | ⟨g, cap, cur, hv, hgb, rest⟩⟩
  · exact ⟨q0, .inl ⟨hv, hn⟩⟩
  · exact ⟨q0, .inr ⟨g, cap, cur, hv, Nat.le_trans hb hgb, rest⟩⟩
def BestUpN (W : Int) (A : Nat → Int) (L acc : List (List Int)) (k : Nat) : Prop := ∀ rest, BestFrom W A (L.drop k) rest → BestFrom W A L (acc ++ rest)
theorem BestUpN.zero (W : Int) (A : Nat → Int) (L : List (List Int)) : BestUpN W A L [] 0 := fun _ h => h
theorem BestUpN.more {W : Int} {A : Nat → Int} {L acc : List (List Int)} {k c : Nat} (h : BestUpN W A L acc k) (hf : PickAt W (L.drop k) A c) : BestUpN W A L (acc ++ [pack ((L.drop k).take c)]) (k + c) := fun rest hr => by
  rw [List.append_assoc]
  refine h _ (.step hf ?_)
  rw [List.drop_drop]
  exact hr
theorem BestUpN.all {W : Int} {A : Nat → Int} {L acc : List (List Int)} {k : Nat} (h : BestUpN W A L acc k) (hk : L.length ≤ k) : BestFrom W A L acc := by
  have := h [] (by rw [List.drop_eq_nil_of_le hk]; exact .done)
  rwa [List.append_nil] at this
/-- of 1 .. c - 1 words d are the last that cost m; d is 1 if none do -/
def EndSt (W : Int) (S : List (List Int)) (A : Nat → Int) (m : Int) (c d : Nat) : Prop :=
  (d = 1 ∧ ∀ x, 1 ≤ x → x < c → stepC W S A x ≠ m) ∨ (1 ≤ d ∧ d < c ∧ stepC W S A d = m ∧ ∀ x, d < x → x < c → stepC W S A x ≠ m)
theorem EndSt.one (W : Int) (S : List (List Int)) (A : Nat → Int) (m : Int) : EndSt W S A m 1 1 := .inl ⟨rfl, fun x h1 h2 => absurd h1 (by omega)⟩
theorem EndSt.pos {W : Int} {S : List (List Int)} {A : Nat → Int} {m : Int} {c d : Nat} (h : EndSt W S A m c d) : 1 ≤ d ∧ (d ≤ c ∨ d = 1) := by
  rcases h with ⟨rfl, _⟩ | ⟨h1, h2, _⟩
  · exact ⟨Nat.le_refl _, .inr rfl⟩
  · exact ⟨h1, .inl (by omega)⟩
theorem EndSt.hit {W : Int} {S : List (List Int)} {A : Nat → Int} {m : Int} {c : Nat} (h1 : 1 ≤ c) (k : stepC W S A c = m) : EndSt W S A m (c + 1) c :=
  .inr ⟨h1, by omega, k, fun x x1 x2 => absurd x1 (by omega)⟩
theorem EndSt.miss {W : Int} {S : List (List Int)} {A : Nat → Int} {m : Int} {c d : Nat} (h : EndSt W S A m c d) (k : stepC W S A c ≠ m) : EndSt W S A m (c + 1) d := by
  rcases h with ⟨rfl, h1⟩ | ⟨h1, h2, h3, h4⟩
  · refine .inl ⟨rfl, fun x x1 x2 => ?_⟩
    by_cases e : x = c
    · subst e; exact k
    · exact h1 x x1 (by omega)
  · refine .inr ⟨h1, by omega, h3, fun x x1 x2 => ?_⟩
    by_cases e : x = c
    · subst e; exact k
    · exact h4 x x1 (by omega)
theorem EndSt.pick {W : Int} {S : List (List Int)} {A : Nat → Int} {f d : Nat} {m : Int} (h : EndSt W S A m (f + 1) d) (hF : Full W S f) (hm : IsMin W S A f m) (e : A S.length = m) : PickAt W S A d := by
  subst e
  rcases h with ⟨_, h1⟩ | ⟨h1, h2, h3, h4⟩
  · obtain ⟨⟨x, x1, x2, x3⟩, _⟩ := hm
    exact absurd x3 (h1 x x1 (by omega))
  · exact ⟨f, hF, h1, by omega, h3, fun x x1 x2 => h4 x x1 (by omega)⟩
set_option maxHeartbeats 3000000 in
theorem s_BestLines (w : World) (v : Value) (L : List (List Int)) (W : Int) (b : Bool) (hx : ListsAt w v L) (hb : Hid (b = true ↔ FillOk L W)) :
    Calls Try.prog 25 #[v, .int .i64 W] w fun e w' => ∃ R, BestRes L W b R ∧ LsOut R w e w' := by
  have HX := keptL hx
  obtain ⟨a, cp, rfl, x1, x2, _⟩ := hx
  obtain ⟨n, hn⟩ : ∃ n, L.length = n := ⟨_, rfl⟩
  rw [hn] at x1 HX ⊢
  have HN := Lib.hid hn
  clear hn
  cases b with
  | false =>
    go_enter Try.func25, Try.ntmps25
    go_wp2_with fail
    refine (s_validWords_b w _ L W false HX.out hb).mono ?_
    rintro e w1 ⟨rfl, rfl⟩
    clear hb
    go_wp2
    go_ret
    exact ⟨[], rfl, _, _, _, rfl, OwnLs.nil w w.heap.size 0 (Nat.zero_le _), Below.refl _ _⟩
  | true =>
    have HOK : Hid (FillOk L W) := hb.out.1 rfl
    have hn30 : n ≤ 30 := by have := HOK.out.1; rw [HN.out] at this; exact this
    have hW40 := HOK.out.2.1.2
    obtain ⟨n1, hn1⟩ : ∃ n1, n + 1 = n1 := ⟨_, rfl⟩
    have H1 := Lib.hid hn1
    have hn31 : n1 ≤ 31 := by omega
    have H1L : Hid (L.length + 1 = n1) := by show _ = _; rw [HN.out]; exact hn1
    clear hn1
    go_enter Try.func25, Try.ntmps25
    go_wp2_with fail
    refine (s_validWords_b w _ L W true HX.out (show _ ↔ _ from ⟨fun _ => HOK.out, fun _ => rfl⟩)).mono ?_
    rintro e w1 ⟨rfl, rfl⟩
    clear hb
    go_wp2_with fail
    refine (s_costFrom w _ L W n1 HX.out HOK H1L).mono ?_
    rintro e w1 ⟨zs, rfl, hZ, hzl, hSM, hC, hb1⟩
    rw [HN.out] at hSM hC
    have HZ := keptL hZ
    have HZL := keptL hzl
    have HSM := keptL hSM
    have HC := keptL hC
    have HB1 := keptL hb1
    have hs1 := hb1.size
    have hO0 := OwnLs.made w1 w1.heap.size 0 (Nat.zero_le _) (Nat.le_refl _)
    have hB0 : Below w1.heap.size w1 (w1.alloc (.cells #[] 28)) := (Below.refl _ _).alloc (Nat.le_refl _) _
    clear hZ hzl hSM hC hb1
    go_wp2_with fail
    go_loopw [6, 7] (fun o i wr => ∃ (k : Nat) (acc : List (List Int)), k ≤ n ∧ i = .int .i64 k ∧ OwnLs wr w1.heap.size 0 o acc ∧ Below w1.heap.size w1 wr ∧ acc.length ≤ k ∧ Hid (BestUpN W (arrA zs n) L acc k)) (fun _ i _ => n - (intOf i).toNat)
    case atStart => exact ⟨0, [], Nat.zero_le _, by go_num, hO0, hB0, by simp, BestUpN.zero _ _ _⟩
    case round =>
      clear hO0 hB0
      obtain ⟨k, acc, hk, rfl, hO, hB, hacc, HU⟩ := hrel
      obtain ⟨ao, no, co, hoo⟩ := hO.isSlice
      subst hoo
      have HO := keptL hO
      have HB := keptL hB
      have hsz := hB.size
      clear hO hB
      by_cases hlt : k < n
      · obtain ⟨g, off, u, rfl, hh1, hh2⟩ := HX.out.someNth hlt
        have b1 : (0 : Int) ≤ (k : Int) := by omega
        obtain ⟨wo, rfl⟩ : ∃ wo, wo = wr := ⟨wr, rfl⟩
        obtain ⟨f, hF, hM⟩ := HC.out k (Nat.zero_le _) (by rw [HN.out]; exact hlt)
        rw [HN.out] at hM
        have HF := keptL hF
        have hf1 := hF.1
        have hf2 : k + f ≤ n := by have := hF.2.1; rw [List.length_drop, HN.out] at this; omega
        obtain ⟨m, hm⟩ : ∃ m, arrA zs n (n - k) = m := ⟨_, rfl⟩
        rw [hm] at hM
        have HM := keptL hM
        have HMM := Lib.hid hm
        clear hF hM hm hh1 hh2
        go_wp2
        go_loopw [8, 9] (fun z y wi => ∃ c d : Nat, 1 ≤ c ∧ c ≤ f + 1 ∧ d ≤ f ∧ 1 ≤ d ∧ z = .int .i64 ((k : Int) + (d : Int)) ∧ y = .int .i64 ((k : Int) + (c : Int)) ∧ Hid (EndSt W (L.drop k) (arrA zs n) m c d) ∧ Hid (Below wo.heap.size wo wi)) (fun _ y _ => n + 2 - (intOf y).toNat)
        case atStart => exact ⟨1, 1, Nat.le_refl _, by omega, hf1, Nat.le_refl _, by go_num, by go_num, EndSt.one _ _ _ _, Below.refl _ _⟩
        case round =>
          obtain ⟨wi, rfl⟩ : ∃ wi, wi = wr := ⟨wr, rfl⟩
          obtain ⟨c, d, hc0, hcf, hdf, hd1, rfl, rfl, HES, HBi⟩ := hrel
          have HBv := keptL (below_nextL HB.out hsz HBi.out)
          have HBt := keptL (below_nextL HB1.out hs1 HBv.out)
          have hszi := HBv.out.size
          by_cases hcn : k + c ≤ n
          · have d1 : decide ((k : Int) + (c : Int) ≤ (n : Int)) = true := decide_eq_true (by omega)
            have HS : Hid (ListsAt wi (.slice (some ⟨g, off + k, none⟩) c (cp - k)) ((L.drop k).take c)) := ((HX.out.below HBt.out).dropL k (by omega)).take c (by omega)
            have hl : ((L.drop k).take c).length = c := by rw [List.length_take, List.length_drop, HN.out]; omega
            go_wp2_with fail
            refine (s_pack wi _ _ HS.out (by omega) ((HOK.out.len.drop _).take _) ((HOK.out.min.drop _).take _)).mono ?_
            rintro e w3 ⟨a6, p, c6, rfl, hI, hb3⟩
            have hp : (pack ((L.drop k).take c)).length = p := by
              obtain ⟨_, _, e, _⟩ := hI.at
              injection e with _ e2 _
              exact e2.symm
            have HP := Lib.hid hp
            have HBn := keptL (below_nextL HBi.out HBi.out.size hb3)
            have HBv3 := keptL (below_nextL HBv.out hszi hb3)
            have HZ3 := keptL (HZ.out.below HBv3.out)
            clear hI hb3 hp HS HBi HBv HBt
            by_cases hcf2 : c ≤ f
            · have hpW : (p : Int) ≤ W := by rw [← HP.out]; exact fit_len HF.out.2.2.1 (fun x hx => (HOK.out.2.2.all x (List.mem_of_mem_drop hx)).2.1) hc0 hcf2 (by rw [List.length_drop, HN.out]; omega)
              have dp : decide ((p : Int) ≤ W) = true := decide_eq_true hpW
              have h1n := H1.out
              have cc := HZ3.out.cell (by rw [HZL.out]) (k := k + c) (by omega)
              have ci := HZ3.out.cell (by rw [HZL.out]) (k := k) (by omega)
              have hzk : zs.getD k 0 = m := by
                have h6 := HMM.out
                unfold arrA at h6
                rw [show n - (n - k) = k from by omega] at h6
                exact h6
              rw [hzk] at ci
              obtain ⟨y, hy⟩ : ∃ y, zs.getD (k + c) 0 = y := ⟨_, rfl⟩
              rw [hy] at cc
              have hyb := HSM.out (k + c)
              rw [hy] at hyb
              obtain ⟨r, hr⟩ : ∃ r, stepC W (L.drop k) (arrA zs n) c = r := ⟨_, rfl⟩
              have hrb := stepC_small (S := L.drop k) HSM.out hW40 (by rw [List.length_drop, HN.out]; omega) hc0 (by rw [List.length_drop, HN.out]; omega) (by rw [HP.out]; exact hpW)
              rw [hr, List.length_drop, HN.out] at hrb
              have HR := Lib.hid hr
              have b2 : (0 : Int) ≤ (k : Int) + (c : Int) := by omega
              have b3 : (k : Int) + (c : Int) < (n1 : Int) := by omega
              have b4 : (k : Int) < (n1 : Int) := by omega
              have t3 : ((k : Int) + (c : Int)).toNat = k + c := by omega
              clear hzk
              by_cases hcl : k + c < n
              · have d3 : decide ((k : Int) + (c : Int) < (n : Int)) = true := decide_eq_true (by omega)
                obtain ⟨s, hs⟩ : ∃ s, (W - (p : Int)) * (W - (p : Int)) = s := ⟨_, rfl⟩
                have HSQ := Lib.hid hs
                obtain ⟨_, _, _, _, hs0, hs1'⟩ := sq_nat HSQ hpW hW40
                have hrs : y + s = r := by
                  rw [← hr]
                  unfold stepC arrA
                  rw [if_neg (by rw [List.length_drop, HN.out]; omega), List.length_drop, HN.out, show n - (n - k - c) = k + c from by omega, hy]
                  unfold sqFree
                  rw [HP.out, hs]; omega
                have u3 : IntKind.i64.wrap (y + s) = r := by rw [hrs]; exact IntWalk.i64_in _ (by omega)
                have HX3 : Hid (ListsAt w3 (.slice (some ⟨g, off + k, none⟩) c (cp - k)) ((L.drop k).take c)) := ((HX.out.below (below_nextL HB1.out hs1 HBv3.out)).dropL k (by omega)).take c (by omega)
                clear hs hr hrs hy
                go_wp2_with fail
                refine (s_pack w3 _ _ HX3.out (by omega) ((HOK.out.len.drop _).take _) ((HOK.out.min.drop _).take _)).mono ?_
                rintro e w4 ⟨a7, p7, c7, rfl, hI, hb4⟩
                have hp7 : p7 = p := by
                  obtain ⟨_, _, e, _⟩ := hI.at
                  injection e with _ e2 _
                  rw [e2]; exact HP.out
                subst hp7
                have HBW := keptL (below_nextL HBn.out HBn.out.size hb4)
                have ci := (HZ3.out.below hb4).cell (by rw [HZL.out]) (k := k) (by omega)
                have hzk : zs.getD k 0 = m := by
                  have h6 := HMM.out
                  unfold arrA at h6
                  rw [show n - (n - k) = k from by omega] at h6
                  exact h6
                rw [hzk] at ci
                clear hI hb4 HX3 cc hzk
                go_wp2_with fail
                refine (s_spare w4 _ p7 _ W s HSQ hpW hW40).mono ?_
                rintro e w5 ⟨rfl, rfl⟩
                by_cases hrm : r = m
                · have e2 : (r == m) = true := by simp [hrm]
                  have HE' : Hid (EndSt W (L.drop k) (arrA zs n) m (c + 1) c) := EndSt.hit hc0 (by rw [HR.out]; exact hrm)
                  clear HES HR hrb hrm
                  go_wp2
                  go_roundw
                  case rel => exact ⟨c + 1, c, by omega, by omega, hcf2, hc0, by go_num, by go_num, HE', HBW⟩
                  case measure => simp [intOf] <;> omega
                · have e2 : (r == m) = false := by simpa using hrm
                  have HE' : Hid (EndSt W (L.drop k) (arrA zs n) m (c + 1) d) := HES.out.miss (by rw [HR.out]; exact hrm)
                  clear HES HR hrb hrm
                  go_wp2
                  go_roundw
                  case rel => exact ⟨c + 1, d, by omega, by omega, hdf, hd1, by go_num, by go_num, HE', HBW⟩
                  case measure => simp [intOf] <;> omega
              · have d3 : decide ((k : Int) + (c : Int) < (n : Int)) = false := decide_eq_false (by omega)
                have hry : r = y := by
                  have h6 : r = 0 := by
                    rw [← hr]; unfold stepC
                    rw [if_pos (by rw [List.length_drop, HN.out]; omega)]
                  have h7 : n - (k + c) = 0 := by omega
                  rw [h7] at hyb
                  omega
                subst hry
                have HBW := keptL HBn.out
                clear hr hy
                by_cases hrm : r = m
                · have e2 : (r == m) = true := by simp [hrm]
                  have HE' : Hid (EndSt W (L.drop k) (arrA zs n) m (c + 1) c) := EndSt.hit hc0 (by rw [HR.out]; exact hrm)
                  clear HES HR hrb hrm
                  go_wp2
                  go_roundw
                  case rel => exact ⟨c + 1, c, by omega, by omega, hcf2, hc0, by go_num, by go_num, HE', HBW⟩
                  case measure => simp [intOf] <;> omega
                · have e2 : (r == m) = false := by simpa using hrm
                  have HE' : Hid (EndSt W (L.drop k) (arrA zs n) m (c + 1) d) := HES.out.miss (by rw [HR.out]; exact hrm)
                  clear HES HR hrb hrm
                  go_wp2
                  go_roundw
                  case rel => exact ⟨c + 1, d, by omega, by omega, hdf, hd1, by go_num, by go_num, HE', HBW⟩
                  case measure => simp [intOf] <;> omega
            · obtain rfl : c = f + 1 := by omega
              have hpW : ¬ (p : Int) ≤ W := by
                rcases HF.out.2.2.2 with h6 | h6
                · rw [List.length_drop, HN.out] at h6; omega
                · rw [HP.out] at h6; omega
              have dp : decide ((p : Int) ≤ W) = false := decide_eq_false hpW
              have HBx := keptL HBn.out
              have hpk : PickAt W (L.drop k) (arrA zs n) d := HES.out.pick HF.out HM.out (by rw [List.length_drop, HN.out]; exact HMM.out)
              have HUP : Hid (BestUpN W (arrA zs n) L (acc ++ [pack ((L.drop k).take d)]) (k + d)) := HU.out.more hpk
              have HOx := keptL (HO.out.below HBx.out)
              have HBw := keptL (below_nextL HB.out hsz HBx.out)
              have hszx := HBw.out.size
              have HSx : Hid (ListsAt w3 (.slice (some ⟨g, off + k, none⟩) d (cp - k)) ((L.drop k).take d)) := ((HX.out.below (below_nextL HB1.out hs1 HBw.out)).dropL k (by omega)).take d (by omega)
              have hlx : ((L.drop k).take d).length = d := by rw [List.length_take, List.length_drop, HN.out]; omega
              clear hpk HES
              go_wp2_with fail
              refine (s_pack w3 _ _ HSx.out (by omega) ((HOK.out.len.drop _).take _) ((HOK.out.min.drop _).take _)).mono ?_
              rintro e w7 ⟨a7, n7, c7, rfl, hI, hb7⟩
              have HO3 := keptL (HOx.out.below hb7)
              have HB3 := keptL (below_nextL HBw.out hszx hb7)
              have HI3 := keptL hI
              have hsz3 := HB3.out.size
              clear hI hb7
              have hal : Below w7.heap.size w7 (w7.alloc (.cells #[.slice a7 n7 c7] 28)) := (Below.refl _ _).alloc (Nat.le_refl _) _
              have HO8 := keptL (HO3.out.below hal)
              have HE8 : Hid (ElOk (w7.alloc (.cells #[.slice a7 n7 c7] 28)) 0 (.slice a7 n7 c7) (pack ((L.drop k).take d))) := ElOk.of_own (HI3.out.below hal)
              have HC8 : Hid ((w7.alloc (.cells #[.slice a7 n7 c7] 28)).cell? ⟨w7.heap.size, 0, none⟩ = some (.slice a7 n7 c7)) := by
                show _ = _
                rw [cell_of_row _ w7.heap.size 0 _ _ _ (heap_alloc_new w7 _)]; rfl
              have HS8 : Hid (acc.length ≤ 100000 ∧ w1.heap.size ≤ (w7.alloc (.cells #[.slice a7 n7 c7] 28)).heap.size) := ⟨by omega, Nat.le_trans hsz3 hal.size⟩
              clear hal
              go_wp2_with (at_builtin; go_loud (refine wpList_append_ls rfl _ _ rfl w1.heap.size 0 w7.heap.size (pack ((L.drop k).take d)) rfl rfl HO8.out HC8.out HE8.out rfl HS8.out.1 HS8.out.2 ?_))
              intro v9 w9 hown9 hgrow9
              have HO9 := keptL hown9
              have HB9 := keptL (grown_ls HB3.out hsz3 HO3.out hgrow9)
              clear hown9 hgrow9
              go_wp2
              go_roundw
              case rel => exact ⟨k + d, acc ++ [pack ((L.drop k).take d)], by omega, by go_num, HO9.out, HB9.out, by simp; omega, HUP.out⟩
              case measure => simp [intOf]; omega
          · have d1 : decide ((k : Int) + (c : Int) ≤ (n : Int)) = false := decide_eq_false (by omega)
            obtain rfl : c = f + 1 := by omega
            have HBx := keptL HBi.out
            have hpk : PickAt W (L.drop k) (arrA zs n) d := HES.out.pick HF.out HM.out (by rw [List.length_drop, HN.out]; exact HMM.out)
            have HUP : Hid (BestUpN W (arrA zs n) L (acc ++ [pack ((L.drop k).take d)]) (k + d)) := HU.out.more hpk
            have HOx := keptL (HO.out.below HBx.out)
            have HBw := keptL (below_nextL HB.out hsz HBx.out)
            have hszx := HBw.out.size
            have HSx : Hid (ListsAt wi (.slice (some ⟨g, off + k, none⟩) d (cp - k)) ((L.drop k).take d)) := ((HX.out.below (below_nextL HB1.out hs1 HBw.out)).dropL k (by omega)).take d (by omega)
            have hlx : ((L.drop k).take d).length = d := by rw [List.length_take, List.length_drop, HN.out]; omega
            clear hpk HES
            go_wp2_with fail
            refine (s_pack wi _ _ HSx.out (by omega) ((HOK.out.len.drop _).take _) ((HOK.out.min.drop _).take _)).mono ?_
            rintro e w7 ⟨a7, n7, c7, rfl, hI, hb7⟩
            have HO3 := keptL (HOx.out.below hb7)
            have HB3 := keptL (below_nextL HBw.out hszx hb7)
            have HI3 := keptL hI
            have hsz3 := HB3.out.size
            clear hI hb7
            have hal : Below w7.heap.size w7 (w7.alloc (.cells #[.slice a7 n7 c7] 28)) := (Below.refl _ _).alloc (Nat.le_refl _) _
            have HO8 := keptL (HO3.out.below hal)
            have HE8 : Hid (ElOk (w7.alloc (.cells #[.slice a7 n7 c7] 28)) 0 (.slice a7 n7 c7) (pack ((L.drop k).take d))) := ElOk.of_own (HI3.out.below hal)
            have HC8 : Hid ((w7.alloc (.cells #[.slice a7 n7 c7] 28)).cell? ⟨w7.heap.size, 0, none⟩ = some (.slice a7 n7 c7)) := by
              show _ = _
              rw [cell_of_row _ w7.heap.size 0 _ _ _ (heap_alloc_new w7 _)]; rfl
            have HS8 : Hid (acc.length ≤ 100000 ∧ w1.heap.size ≤ (w7.alloc (.cells #[.slice a7 n7 c7] 28)).heap.size) := ⟨by omega, Nat.le_trans hsz3 hal.size⟩
            clear hal
            go_wp2_with (at_builtin; go_loud (refine wpList_append_ls rfl _ _ rfl w1.heap.size 0 w7.heap.size (pack ((L.drop k).take d)) rfl rfl HO8.out HC8.out HE8.out rfl HS8.out.1 HS8.out.2 ?_))
            intro v9 w9 hown9 hgrow9
            have HO9 := keptL hown9
            have HB9 := keptL (grown_ls HB3.out hsz3 HO3.out hgrow9)
            clear hown9 hgrow9
            go_wp2
            go_roundw
            case rel => exact ⟨k + d, acc ++ [pack ((L.drop k).take d)], by omega, by go_num, HO9.out, HB9.out, by simp; omega, HUP.out⟩
            case measure => simp [intOf]; omega
      · obtain rfl : k = n := by omega
        have HFB : Hid (BestFrom W (arrA zs k) L acc) := HU.out.all (by rw [HN.out]; omega)
        have HOF := keptL (HO.out.lowerN hs1)
        have HBF := keptL (below_nextL HB1.out hs1 HB.out)
        clear HU
        go_wp2
        go_ret
        exact ⟨acc, ⟨_, HC.out, HFB.out⟩, _, _, _, rfl, HOF.out, HBF.out⟩
end Go.Proofs.Ytnbppackijjohaa
