
/- Regions of the program, on pictures whose dots lie apart. -/
import Derived.Test.YthpbpdnlnmldeaaKj7
import Derived.Test.YthpbpdnlnmldeaaJh
namespace Go.Proofs.Ythpbpdnlnmldeaa
open Go.RowKit

/-- the dots before a place taken away -/
def lfF (f : Nat → Nat → Int) (k q : Nat) : Nat → Nat → Int := fun y x => if y < k ∨ (y = k ∧ x < q) then 0 else f y x
theorem lfF_zero (f : Nat → Nat → Int) : lfF f 0 0 = f := by
  funext y x
  unfold lfF
  rw [if_neg (by omega)]
theorem lfF_upd (f : Nat → Nat → Int) (k q : Nat) : upd (lfF f k q) k q 0 = lfF f k (q + 1) := by
  funext y x
  unfold upd lfF
  by_cases h : y = k ∧ x = q
  · rw [if_pos h, if_pos (by omega)]
  · rw [if_neg h]
    by_cases h2 : y < k ∨ (y = k ∧ x < q)
    · rw [if_pos h2, if_pos (by omega)]
    · rw [if_neg h2, if_neg (by omega)]
theorem lfF_skip {f : Nat → Nat → Int} {k q : Nat} (h : f k q = 0) : lfF f k q = lfF f k (q + 1) := by
  funext y x
  unfold lfF
  by_cases h2 : y < k ∨ (y = k ∧ x < q)
  · rw [if_pos h2, if_pos (by omega)]
  · rw [if_neg h2]
    by_cases h3 : y = k ∧ x = q
    · obtain ⟨rfl, rfl⟩ := h3
      rw [if_pos (by omega), h]
    · rw [if_neg (by omega)]
theorem lfF_row {f : Nat → Nat → Int} {k m : Nat} (h : ∀ x, m ≤ x → f k x = 0) : lfF f k m = lfF f (k + 1) 0 := by
  funext y x
  unfold lfF
  by_cases h2 : y < k ∨ (y = k ∧ x < m)
  · rw [if_pos h2, if_pos (by omega)]
  · rw [if_neg h2]
    by_cases h3 : y = k
    · subst h3
      rw [if_pos (by omega), h x (by omega)]
    · rw [if_neg (by omega)]
theorem lfF_at (f : Nat → Nat → Int) (k q : Nat) : lfF f k q k q = f k q := by
  unfold lfF
  rw [if_neg (by omega)]
/-- no two dots lie side by side -/
def LoneAll (f : Nat → Nat → Int) (n m : Nat) : Prop := ∀ y x, y < n → x < m → f y x = 1 → LoneAt (upd f y x 0) n m y x
theorem lone_left {f : Nat → Nat → Int} {n m k q : Nat} (h : LoneAll f n m) (hk : k < n) (hq : q < m) (h1 : f k q = 1) : LoneAt (upd (lfF f k q) k q 0) n m k q := by
  intro i j hi hj a b c d e
  refine h k q hk hq h1 i j hi hj a b c d ?_
  unfold upd at e ⊢
  by_cases h2 : i = k ∧ j = q
  · rw [if_pos h2] at e; exact absurd e (by omega)
  · rw [if_neg h2] at e ⊢
    unfold lfF at e
    by_cases h3 : i < k ∨ (i = k ∧ j < q)
    · rw [if_pos h3] at e; exact absurd e (by omega)
    · rw [if_neg h3] at e; exact e
/-- how many dots lie before a place -/
def befF (f : Nat → Nat → Int) (m k q : Nat) : Int := bs f 0 k 0 m + rs (f k) 0 q
theorem bef_next (f : Nat → Nat → Int) (m k q : Nat) : befF f m k (q + 1) = befF f m k q + f k q := by
  unfold befF
  simp only [rs, Nat.zero_add]
  omega
theorem bef_row (f : Nat → Nat → Int) (m k : Nat) : befF f m k m = befF f m (k + 1) 0 := by
  unfold befF bs
  simp only [rs, Nat.zero_add]
  omega
theorem bef_all (f : Nat → Nat → Int) (m n : Nat) : befF f m n 0 = bs f 0 n 0 m := by
  unfold befF
  simp only [rs]
  omega
set_option maxHeartbeats 1000000 in
theorem i_Regions_apart (w : World) (v : Value) (P : List (List Int)) (hx : ListsAt w v P) (hb : BlockOk P 24 24 1) (ha : LoneAll (px P) P.length (wdt P)) :
    Calls Try.prog 24 #[v] w fun e w' => e = .returned (.int .i64 (rai P : Nat)) ∧ Below w.heap.size w w' := by
  have HX := keptI hx
  have HOK := keptI hb
  have HL := keptI ha
  obtain ⟨a, n, cp, rfl, hn, x1, x2, _⟩ := hx.partsI
  obtain ⟨hn', hp⟩ := hb.pic hx
  obtain ⟨hd1, hd2, hd3, hd4⟩ := hb.bd
  have HN := Lib.hid hn
  rw [hn] at hd1 hd2
  obtain ⟨m, hm⟩ : ∃ m, wdt P = m := ⟨_, rfl⟩
  rw [hm] at hd3 hd4 hp
  have HM := Lib.hid hm
  have HP := keptI hp
  obtain ⟨g, off, b0, o0, d0, rfl, c00, _, _, _⟩ := hp.row (y := 0) hd1
  rw [Nat.add_zero] at c00
  have q0 : (0 : Int) < (n : Int) := by omega
  clear hx hb ha hn hn' hm hp x1 x2
  go_enter Try.func24, Try.ntmps24
  go_wp2_with fail
  refine (i_ValidPicture w _ P HX.out).mono ?_
  rintro e w0 ⟨b, rfl, rfl, hbb⟩
  obtain rfl : b = true := hbb.2 HOK.out
  clear hbb
  obtain ⟨f, hf⟩ : ∃ f, px P = f := ⟨_, rfl⟩
  have HF := Lib.hid hf
  have HBIN : Hid (∀ y x, f y x = 0 ∨ f y x = 1) := by rw [← hf]; exact fun y x => HOK.out.bin y x
  have HOUT : Hid (∀ y x, m ≤ x → f y x = 0) := by rw [← hf, ← HM.out]; exact fun y x h => px_out HOK.out.2.2 (.inr h)
  have HLA : Hid (LoneAll f n m) := by
    show LoneAll f n m
    rw [← hf, ← HN.out, ← HM.out]; exact HL.out
  have HRA : Hid (befF f m n 0 = ((rai P : Nat) : Int)) := by
    show befF f m n 0 = _
    rw [bef_all, ← hf, ← HN.out, ← HM.out]; exact (rai_bs HOK.out).symm
  have HPF : Hid (PicAt w (some ⟨g, off, none⟩) n cp m f) := by rw [← hf]; exact HP.out
  have HP0 : Hid (PicAt w (some ⟨g, off, none⟩) n cp m (lfF f 0 0)) := by rw [lfF_zero]; exact HPF.out
  clear hf HL HX HP
  go_wp2
  go_loopw [3, 4, 13] (fun c l i wr => ∃ (k : Nat) (S : Int) (al : Option Addr) (cl : Nat), k ≤ n ∧ i = .int .i64 k ∧ c = .int .i64 S ∧ l = .slice al n cl ∧ Hid (PicAt wr al n cl m (lfF f k 0)) ∧ Hid (S = befF f m k 0) ∧ 0 ≤ S ∧ S ≤ 24 * k ∧ Below w.heap.size w wr) (fun _ _ i _ => n - (intOf i).toNat)
  case atStart => exact ⟨0, 0, _, _, Nat.zero_le _, rfl, rfl, rfl, HP0, rfl, by omega, by omega, Below.refl _ _⟩
  case round =>
    clear HP0
    obtain ⟨k, S, al, cl, hk, rfl, rfl, rfl, HPL, HS, hS0, hS1, hB⟩ := hrel
    rename World => wo
    have HB := keptI hB
    by_cases hlt : k < n
    · obtain ⟨_, _, b, o, d, e1, c0, _, _, _⟩ := HPF.out.row hlt
      injection e1 with e1
      injection e1 with e1 e2
      subst e1 e2
      have c0 := (hB.cell (World.block_lt_of_cell? w _ c0)).trans c0
      have p1 : (0 : Int) ≤ (k : Int) := by omega
      have p2 : (k : Int) < (n : Int) := by omega
      clear hB
      go_wp2
      clear c0
      go_loopw [3, 4, 21] (fun c l j wx => ∃ (q : Nat) (T : Int) (al : Option Addr) (cl : Nat), q ≤ m ∧ j = .int .i64 q ∧ c = .int .i64 T ∧ l = .slice al n cl ∧ Hid (PicAt wx al n cl m (lfF f k q)) ∧ Hid (T = befF f m k q) ∧ 0 ≤ T ∧ T ≤ 24 * k + q ∧ Below w.heap.size w wx) (fun _ _ j _ => m - (intOf j).toNat)
      case atStart => exact ⟨0, S, _, _, Nat.zero_le _, rfl, rfl, rfl, HPL, HS, hS0, by omega, HB.out⟩
      case round =>
        clear HPL HS hS0 hS1 HB
        obtain ⟨q, T, a2, c2, hq, rfl, rfl, rfl, HPL, HT, hT0, hT1, hB⟩ := hrel
        have HB := keptI hB
        by_cases hqm : q < m
        · obtain ⟨g2, o2, b2, ob2, d2, rfl, cl0, _, _, hcl⟩ := HPL.out.row hlt
          have cl1 := hcl q hqm
          rw [lfF_at] at cl1
          have p3 : (0 : Int) ≤ (q : Int) := by omega
          have p4 : (q : Int) < (m : Int) := by omega
          by_cases hz : f k q = 1
          · rw [hz] at cl1
            have HLO := keptI (lone_left HLA.out hlt hqm hz)
            have HT2 : Hid (T + 1 = befF f m k (q + 1)) := by
              show T + 1 = _
              rw [bef_next, hz, HT.out]
            have u1 : IntKind.i64.wrap (T + 1) = T + 1 := IntWalk.i64_in _ (by omega)
            clear hcl hz hB
            go_wp2_with fail
            refine (i_without_lone wr _ n c2 m (lfF f k q) k q HPL.out (by omega) (by omega) hlt hqm HLO.out).mono ?_
            rintro e w6 ⟨a6, n6, c6, rfl, hO6, hb6⟩
            have hpic := hO6.pic (by omega) (by omega)
            obtain rfl : n6 = n := hpic.1
            have HP6 := hpic.2
            rw [lfF_upd] at HP6
            have HP6 := keptI HP6
            have HB6 := keptI (below_next HB.out hb6)
            clear hO6 hb6 hpic cl0 cl1
            go_wp2
            go_roundw
            case rel => exact ⟨q + 1, T + 1, _, _, by omega, by go_num, rfl, rfl, HP6, HT2, by omega, by omega, HB6.out⟩
            case measure => simp [intOf]; omega
          · have hz0 : f k q = 0 := by have := HBIN.out k q; omega
            rw [hz0] at cl1
            have HP6 : Hid (PicAt wr (some ⟨g2, o2, none⟩) n c2 m (lfF f k (q + 1))) := by rw [← lfF_skip hz0]; exact HPL.out
            have HT2 : Hid (T = befF f m k (q + 1)) := by
              show T = _
              rw [bef_next, hz0, Int.add_zero, HT.out]
            clear hcl hz hz0 hB
            go_wp2
            go_roundw
            case rel => exact ⟨q + 1, T, _, _, by omega, by go_num, rfl, rfl, HP6, HT2, by omega, by omega, HB.out⟩
            case measure => simp [intOf]; omega
        · obtain rfl : q = m := by omega
          have HP6 : Hid (PicAt wr a2 n c2 q (lfF f (k + 1) 0)) := by rw [← lfF_row (fun x hx => HOUT.out k x hx)]; exact HPL.out
          have HT2 : Hid (T = befF f q (k + 1) 0) := by
            show T = _
            rw [← bef_row, HT.out]
          clear hB
          go_wp2
          go_roundw
          case rel => exact ⟨k + 1, T, _, _, by omega, by go_num, rfl, rfl, HP6, HT2, by omega, by omega, HB.out⟩
          case measure => simp [intOf]; omega
    · obtain rfl : k = n := by omega
      obtain rfl : S = ((rai P : Nat) : Int) := by rw [HS.out, HRA.out]
      clear hB
      go_wp2
      go_ret
      exact ⟨rfl, HB.out⟩
end Go.Proofs.Ythpbpdnlnmldeaa
