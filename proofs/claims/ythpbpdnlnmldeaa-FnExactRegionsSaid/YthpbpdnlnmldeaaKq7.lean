
/- Regions of the model. -/
import Derived.Test.YthpbpdnlnmldeaaKn7
import Derived.Test.YthpbpdnlnmldeaaKo7
import Derived.Test.YthpbpdnlnmldeaaKp7
namespace Go.Proofs.Ythpbpdnlnmldeaa
open Go.RowKit

set_option maxHeartbeats 1000000 in
theorem s_Regions (w : World) (v : Value) (P : List (List Int)) (hx : ListsAt w v P) :
    Calls Try.prog 30 #[v] w fun e w' => ∃ r : Int, e = .returned (.int .i64 r) ∧ RegsIs P r ∧ Below w.heap.size w w' := by
  have HX := keptI hx
  obtain ⟨a, n, cp, rfl, hn, x1, x2, _⟩ := hx.partsI
  clear hx
  go_enter Try.func30, Try.ntmps30
  go_wp2_with fail
  refine (s_validPicture w _ P HX.out).mono ?_
  rintro e w0 ⟨b, rfl, hb0, hbb⟩
  cases b with
  | false =>
    have HZ : Hid (¬ BlockOk P 24 24 1) := fun h => by simpa using hbb.2 h
    have HB0 := keptI hb0
    clear hbb hb0
    go_wp2
    go_ret
    exact ⟨-1, rfl, .inr ⟨HZ.out, rfl⟩, HB0.out⟩
  | true =>
    have HOK : Hid (BlockOk P 24 24 1) := keptI (hbb.1 rfl)
    have hx0 := HX.out.below hb0
    obtain ⟨hn', hp⟩ := HOK.out.pic hx0
    obtain ⟨hd1, hd2, hd3, hd4⟩ := HOK.out.bd
    have HN := Lib.hid hn
    rw [hn] at hd1 hd2
    obtain ⟨m, hm⟩ : ∃ m, wdt P = m := ⟨_, rfl⟩
    rw [hm] at hd3 hd4 hp
    have HM := Lib.hid hm
    obtain ⟨f, hf⟩ : ∃ f, px P = f := ⟨_, rfl⟩
    have HF := Lib.hid hf
    have HBIN : Hid (∀ y x, f y x = 0 ∨ f y x = 1) := by rw [← hf]; exact fun y x => HOK.out.bin y x
    have HOUT : Hid (OutF f n m) := by rw [← hf, ← HM.out, ← HN.out]; exact fun y x h => px_out HOK.out.2.2 h
    rw [hf] at hp
    have HP := keptI hp
    have HB0 := keptI hb0
    clear hbb hb0 hx0 hn hn' hm hp hf
    go_wp2_with fail
    refine (s_copies w0 a n cp m f HP.out (by omega) (by omega)).mono ?_
    rintro e w1 ⟨a1, n1, c1, rfl, hO1, hb1⟩
    obtain ⟨hn1, g1, _, _, ha1, _⟩ := hO1.dot (y := 0) (x := 0) hd1 hd3
    obtain rfl : n1 = n := hn1
    subst ha1
    have hw0 := HB0.out.size
    have HO1 := keptI (hO1.lowerI hw0)
    have HB1 := keptI (below_next HB0.out hb1)
    clear hO1 hb1
    go_wp2
    go_loopw [4, 5] (fun t i wr => ∃ (k : Nat) (g : Nat → Nat → Int) (T : Nat), k ≤ n1 ∧ i = .int .i64 k ∧ t = .int .i64 (T : Int) ∧ Hid (Scan f m k 0 g T) ∧ Hid (OwnLL wr w.heap.size w1.heap.size (.slice (some ⟨g1, 0, none⟩) n1 c1) (gridOf n1 m g)) ∧ Hid (Below w.heap.size w wr)) (fun _ i _ => n1 - (intOf i).toNat)
    case atStart => exact ⟨0, f, 0, Nat.zero_le _, rfl, rfl, Scan.zero, HO1, HB1⟩
    case round =>
      clear HO1 HB1
      obtain ⟨k, g, T, hk, rfl, rfl, HSC, HO, HB⟩ := hrel
      by_cases hlt : k < n1
      · have p1 : (0 : Int) ≤ (k : Int) := by omega
        have p2 : (k : Int) < (n1 : Int) := by omega
        go_wp2
        go_loopw [4, 6] (fun t j wx => ∃ (q : Nat) (g : Nat → Nat → Int) (T : Nat), q ≤ m ∧ j = .int .i64 q ∧ t = .int .i64 (T : Int) ∧ Hid (Scan f m k q g T) ∧ Hid (OwnLL wx w.heap.size w1.heap.size (.slice (some ⟨g1, 0, none⟩) n1 c1) (gridOf n1 m g)) ∧ Hid (Below w.heap.size w wx)) (fun _ j _ => m - (intOf j).toNat)
        case atStart => exact ⟨0, g, T, Nat.zero_le _, rfl, rfl, HSC, HO, HB⟩
        case round =>
          clear HSC HO HB
          obtain ⟨q, g, T, hq, rfl, rfl, HSC, HO, HB⟩ := hrel
          by_cases hqm : q < m
          · obtain ⟨_, g2, b2, d2, e2, _, _, k1, k2, _, k4, k5, _⟩ := HO.out.dot hlt hqm
            injection e2 with e2
            injection e2 with e2 _
            subst e2
            have p3 : (0 : Int) ≤ (q : Int) := by omega
            have p4 : (q : Int) < (m : Int) := by omega
            have hT := HSC.out.few hd4
            have u1 : IntKind.i64.wrap ((T : Int) + 1) = (T : Int) + 1 := IntWalk.i64_in _ (by omega)
            by_cases hz : g k q = 1
            · have HZ := Lib.hid hz
              rw [hz] at k2
              clear hz
              go_wp2_with fail
              refine (s_flood w.heap.size w1.heap.size n1 c1 m _ hd2 hd4 (bs g 0 n1 0 m).toNat wr g k q HO.out HB.out.size (HSC.out.bin HBIN.out) (HSC.out.out HOUT.out) hlt hqm HZ.out (Int.self_le_toNat _)).mono ?_
              rintro e w6 ⟨⟨u, rfl⟩, g', hcut, hO6, hb6⟩
              have HSC6 : Hid (Scan f m k (q + 1) g' (T + 1)) := HSC.out.cut hqm HZ.out hcut
              have HO6 := keptI hO6
              have HB6 := keptI (HB.out.trans hb6)
              clear hcut hO6 hb6 k1 k2
              go_wp2
              go_roundw
              case rel => exact ⟨q + 1, g', T + 1, by omega, by go_num, by go_num, HSC6, HO6, HB6⟩
              case measure => simp [intOf]; omega
            · have HSC6 : Hid (Scan f m k (q + 1) g T) := HSC.out.skip hqm hz
              obtain ⟨z, hzz⟩ : ∃ z, g k q = z := ⟨_, rfl⟩
              rw [hzz] at k2 hz
              have d5 : (z == 1) = false := by simp; exact hz
              clear hzz
              go_wp2
              go_roundw
              case rel => exact ⟨q + 1, g, T, by omega, by go_num, rfl, HSC6, HO, HB⟩
              case measure => simp [intOf]; omega
          · obtain rfl : q = m := by omega
            obtain ⟨_, g2, b2, d2, e2, _, _, k1, _, _, k4, k5, _⟩ := HO.out.dot hlt (x := 0) hd3
            injection e2 with e2
            injection e2 with e2 _
            subst e2
            have HSC6 : Hid (Scan f q (k + 1) 0 g T) := HSC.out.row
            go_wp2
            go_roundw
            case rel => exact ⟨k + 1, g, T, by omega, by go_num, rfl, HSC6, HO, HB⟩
            case measure => simp [intOf]; omega
      · obtain rfl : k = n1 := by omega
        go_wp2
        go_ret
        exact ⟨_, rfl, .inl ⟨HOK.out, g, T, by rw [HF.out, HM.out, HN.out]; exact HSC.out, rfl⟩, HB.out⟩
end Go.Proofs.Ythpbpdnlnmldeaa
