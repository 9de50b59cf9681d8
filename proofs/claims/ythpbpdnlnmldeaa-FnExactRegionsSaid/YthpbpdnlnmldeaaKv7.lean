
/- Regions of the program. -/
import Derived.Test.YthpbpdnlnmldeaaKu7
namespace Go.Proofs.Ythpbpdnlnmldeaa
open Go.RowKit

set_option maxHeartbeats 1000000 in
theorem i_Regions (w : World) (v : Value) (P : List (List Int)) (hx : ListsAt w v P) :
    Calls Try.prog 24 #[v] w fun e w' => ∃ r : Int, e = .returned (.int .i64 r) ∧ RegsIs P r ∧ Below w.heap.size w w' := by
  by_cases hb : BlockOk P 24 24 1
  · have HX := keptI hx
    have HOK := keptI hb
    obtain ⟨a, n, cp, rfl, hn, x1, x2, _⟩ := hx.partsI
    obtain ⟨hn', hp⟩ := hb.pic hx
    obtain ⟨hd1, hd2, hd3, hd4⟩ := hb.bd
    have HN := Lib.hid hn
    rw [hn] at hd1 hd2
    obtain ⟨m, hm⟩ : ∃ m, wdt P = m := ⟨_, rfl⟩
    rw [hm] at hd3 hd4 hp
    have HM := Lib.hid hm
    have HP := keptI hp
    obtain ⟨g, off, b0, o0, d0, rfl, c00, _, _, _⟩ := hp.row (y := 0) hd1
    rw [Nat.add_zero] at c00
    have q0 : (0 : Int) < (n : Int) := by omega
    clear hx hb hn hn' hm hp x1 x2
    go_enter Try.func24, Try.ntmps24
    go_wp2_with fail
    refine (i_ValidPicture w _ P HX.out).mono ?_
    rintro e w0 ⟨b, rfl, rfl, hbb⟩
    obtain rfl : b = true := hbb.2 HOK.out
    clear hbb
    obtain ⟨f, hf⟩ : ∃ f, px P = f := ⟨_, rfl⟩
    have HF := Lib.hid hf
    have HBIN : Hid (∀ y x, f y x = 0 ∨ f y x = 1) := by rw [← hf]; exact fun y x => HOK.out.bin y x
    have HOUT : Hid (OutF f n m) := by rw [← hf, ← HM.out, ← HN.out]; exact fun y x h => px_out HOK.out.2.2 h
    have HPF : Hid (PicAt w (some ⟨g, off, none⟩) n cp m f) := by rw [← hf]; exact HP.out
    clear hf HX HP
    go_wp2
    go_loopw [3, 4, 13] (fun c l i wr => ∃ (k : Nat) (S : Nat) (h : Nat → Nat → Int) (al : Option Addr) (cl : Nat), k ≤ n ∧ i = .int .i64 k ∧ c = .int .i64 (S : Int) ∧ l = .slice al n cl ∧ Hid (PicAt wr al n cl m h) ∧ Hid (Scan f m k 0 h S) ∧ Below w.heap.size w wr) (fun _ _ i _ => n - (intOf i).toNat)
    case atStart => exact ⟨0, 0, f, _, _, Nat.zero_le _, rfl, rfl, rfl, HPF, Scan.zero, Below.refl _ _⟩
    case round =>
      obtain ⟨k, S, h, al, cl, hk, rfl, rfl, rfl, HPL, HS, hB⟩ := hrel
      rename World => wo
      have HB := keptI hB
      by_cases hlt : k < n
      · obtain ⟨_, _, b, o, d, e1, c0, _, _, _⟩ := HPF.out.row hlt
        injection e1 with e1
        injection e1 with e1 e2
        subst e1 e2
        have c0 := (hB.cell (World.block_lt_of_cell? w _ c0)).trans c0
        have p1 : (0 : Int) ≤ (k : Int) := by omega
        have p2 : (k : Int) < (n : Int) := by omega
        clear hB
        go_wp2
        clear c0
        go_loopw [3, 4, 21] (fun c l j wx => ∃ (q : Nat) (T : Nat) (h : Nat → Nat → Int) (al : Option Addr) (cl : Nat), q ≤ m ∧ j = .int .i64 q ∧ c = .int .i64 (T : Int) ∧ l = .slice al n cl ∧ Hid (PicAt wx al n cl m h) ∧ Hid (Scan f m k q h T) ∧ Below w.heap.size w wx) (fun _ _ j _ => m - (intOf j).toNat)
        case atStart => exact ⟨0, S, h, _, _, Nat.zero_le _, rfl, rfl, rfl, HPL, HS, HB.out⟩
        case round =>
          clear HPL HS HB
          obtain ⟨q, T, h, a2, c2, hq, rfl, rfl, rfl, HPL, HT, hB⟩ := hrel
          have HB := keptI hB
          by_cases hqm : q < m
          · obtain ⟨g2, o2, b2, ob2, d2, rfl, cl0, _, _, hcl⟩ := HPL.out.row hlt
            have cl1 := hcl q hqm
            have hTf := HT.out.few hd4
            have p3 : (0 : Int) ≤ (q : Int) := by omega
            have p4 : (q : Int) < (m : Int) := by omega
            by_cases hz : h k q = 1
            · have HZ := Lib.hid hz
              rw [hz] at cl1
              have u1 : IntKind.i64.wrap ((T : Int) + 1) = (T : Int) + 1 := IntWalk.i64_in _ (by omega)
              clear hcl hz hB
              go_wp2_with fail
              refine (i_without wr _ n c2 m h k q HPL.out (by omega) (by omega) hlt hqm (HT.out.bin HBIN.out) (HT.out.out HOUT.out) HZ.out).mono ?_
              rintro e w6 ⟨h6, hcut, a6, n6, c6, rfl, hO6, hb6⟩
              have hpic := hO6.pic (by omega) (by omega)
              obtain rfl : n6 = n := hpic.1
              have HP6 := keptI hpic.2
              have HT6 : Hid (Scan f m k (q + 1) h6 (T + 1)) := HT.out.cut hqm HZ.out hcut
              have HB6 := keptI (below_next HB.out hb6)
              clear hO6 hb6 hpic cl0 cl1 hcut
              go_wp2
              go_roundw
              case rel => exact ⟨q + 1, T + 1, h6, _, _, by omega, by go_num, by go_num, rfl, HP6, HT6, HB6.out⟩
              case measure => simp [intOf]; omega
            · have HT6 : Hid (Scan f m k (q + 1) h T) := HT.out.skip hqm hz
              obtain ⟨z, hzz⟩ : ∃ z, h k q = z := ⟨_, rfl⟩
              rw [hzz] at cl1 hz
              have d5 : (z == 1) = false := by simp; exact hz
              clear hcl hzz hB
              go_wp2
              go_roundw
              case rel => exact ⟨q + 1, T, h, _, _, by omega, by go_num, rfl, rfl, HPL, HT6, HB.out⟩
              case measure => simp [intOf]; omega
          · obtain rfl : q = m := by omega
            have HT6 : Hid (Scan f q (k + 1) 0 h T) := HT.out.row
            clear hB
            go_wp2
            go_roundw
            case rel => exact ⟨k + 1, T, h, _, _, by omega, by go_num, rfl, rfl, HPL, HT6, HB.out⟩
            case measure => simp [intOf]; omega
      · obtain rfl : k = n := by omega
        clear hB
        go_wp2
        go_ret
        exact ⟨_, rfl, .inl ⟨HOK.out, h, S, by rw [HF.out, HM.out, HN.out]; exact HS.out, rfl⟩, HB.out⟩
  · have HX := keptI hx
    have HZ := Lib.hid hb
    obtain ⟨a, n, cp, rfl, hn, x1, x2, _⟩ := hx.partsI
    clear hx hb hn
    go_enter Try.func24, Try.ntmps24
    go_wp2_with fail
    refine (i_ValidPicture w _ P HX.out).mono ?_
    rintro e w0 ⟨b, rfl, rfl, hbb⟩
    obtain rfl : b = false := by
      cases b with
      | false => rfl
      | true => exact absurd (hbb.1 rfl) HZ.out
    clear hbb
    go_wp2
    go_ret
    exact ⟨-1, rfl, .inr ⟨HZ.out, rfl⟩, Below.refl _ _⟩
end Go.Proofs.Ythpbpdnlnmldeaa
