
/- Tables: whether they are valid, in the model. -/
import Derived.Test.YtdjgodemeaneeaaTbC
import Derived.Deep.QuietTactic
import Derived.BigQuiet
namespace Go.Proofs.Ytdjgodemeaneeaa
open Go.RowKit

/-- none of the first m rules has the letters and the place of the k-th -/
def ApUp (T : List PRule) (k m : Nat) : Prop := ∀ j, j < m → ¬ ((T.getD j noR).t = (T.getD k noR).t ∧ (T.getD j noR).p = (T.getD k noR).p)
theorem ApUp.zero (T : List PRule) (k : Nat) : ApUp T k 0 := fun i h => absurd h (by omega)
theorem ApUp.succ {T : List PRule} {k m : Nat} (h : ApUp T k m) (e : ¬ ((T.getD m noR).t = (T.getD k noR).t ∧ (T.getD m noR).p = (T.getD k noR).p)) : ApUp T k (m + 1) := fun i hi => by
  by_cases hik : i = m
  · subst hik; exact e
  · exact h i (by omega)

set_option maxHeartbeats 2000000 in
theorem s_validTable (w : World) (v : Value) (T : List PRule) (b : Bool) (hx : TableAt w v T) (hf : TableFits T) (hb : Hid (b = true ↔ ValidTb T)) :
    Calls Try.prog 44 #[v] w fun e w' => e = .returned (.bool b) ∧ Below w.heap.size w w' := by
  obtain ⟨a, cp, rfl, x1, x2, x3⟩ := hx
  obtain ⟨n, hn⟩ : ∃ n, T.length = n := ⟨_, rfl⟩
  rw [hn] at x1 x3 ⊢
  have HN := Lib.hid hn
  clear hn
  have HF := Lib.hid hf
  clear hf
  go_enter Try.func44, Try.ntmps44
  go_wp2
  go_loopw [3] (fun i wr => ∃ k : Nat, k ≤ n ∧ i = .int .i64 k ∧ TbUp T k ∧ Below w.heap.size w wr) (fun i _ => n - (intOf i).toNat)
  case atStart => exact ⟨0, Nat.zero_le _, rfl, TbUp.zero _, Below.refl _ _⟩
  case round =>
    obtain ⟨k, hk, rfl, hok, hb1⟩ := hrel
    have hsz := hb1.size
    by_cases hlt : k < n
    · rcases x3 with rfl | ⟨g, off, rfl, x3⟩
      · exact absurd HN.out (by simp; omega)
      have X3 := Lib.hid x3
      obtain ⟨r, hr⟩ : ∃ r, T.getD k noR = r := ⟨_, rfl⟩
      have hra := x3 k hlt
      have hrf := HF.out.at k
      rw [hr] at hra hrf
      have HR := Lib.hid hr
      clear hr x3
      obtain ⟨t, zs, q⟩ := r
      obtain ⟨c0, ⟨u, c1, hu⟩, c2⟩ := hra
      have HU : Hid (IntsAt w u zs) := hu
      obtain ⟨a2, cp2, rfl, h1, h2, _⟩ := hu
      simp only at c0 c1 c2 h1
      have C0 := Lib.hid c0
      have C2 := Lib.hid c2
      have c0 := (hb1.cell (World.block_lt_of_cell? w _ c0)).trans c0
      have c1 := (hb1.cell (World.block_lt_of_cell? w _ c1)).trans c1
      have c2 := (hb1.cell (World.block_lt_of_cell? w _ c2)).trans c2
      by_cases hv : ValidR ⟨t, zs, q⟩
      · have HV : Hid (decide (ValidR ⟨t, zs, q⟩) = true) := decide_eq_true hv
        have HVV := Lib.hid hv
        clear hv
        have HU1 : IntsAt wr (.slice a2 zs.length cp2) zs := HU.out.below hb1
        go_wp2_with fail
        refine (s_validRule_v wr _ t zs q true HU1 hrf.1 HV).mono ?_
        rintro e w2 ⟨rfl, hb2⟩
        have hB2 := hb1.trans (hb2.mono hsz)
        clear c0 c1 c2 HU1 hb2
        go_wp2_with fail
        go_loopw [4] (fun j wx => ∃ m : Nat, m ≤ k ∧ j = .int .i64 m ∧ ApUp T k m ∧ Below w.heap.size w wx) (fun j _ => k - (intOf j).toNat)
        case atStart => exact ⟨0, Nat.zero_le _, rfl, ApUp.zero _ _, hB2⟩
        case round =>
          clear hB2
          obtain ⟨m, hm, rfl, hap, hb3⟩ := hrel
          have c0 := (hb3.cell (World.block_lt_of_cell? w _ C0.out)).trans C0.out
          have c2 := (hb3.cell (World.block_lt_of_cell? w _ C2.out)).trans C2.out
          by_cases hlt2 : m < k
          · obtain ⟨r2, hr2⟩ : ∃ r2, T.getD m noR = r2 := ⟨_, rfl⟩
            have hra2 := X3.out m (by omega)
            rw [hr2] at hra2
            have HR2 := Lib.hid hr2
            clear hr2
            obtain ⟨t2, zs2, q2⟩ := r2
            obtain ⟨d0, _, d2⟩ := hra2
            simp only at d0 d2
            have d0 := (hb3.cell (World.block_lt_of_cell? w _ d0)).trans d0
            have d2 := (hb3.cell (World.block_lt_of_cell? w _ d2)).trans d2
            have b1 : (0 : Int) ≤ (k : Int) := by omega
            have b2 : (0 : Int) ≤ (m : Int) := by omega
            have b3 : (k : Int) < (n : Int) := by omega
            have b4 : (m : Int) < (n : Int) := by omega
            by_cases e1 : t2 = t
            · by_cases e2 : q2 = q
              · have e3 : t2.toList = t.toList := by rw [e1]
                have e4 : (q2 == q) = true := by simpa using e2
                have HB : Hid (b = false) := by
                  show b = false
                  cases b
                  · rfl
                  · have := (hb.out.1 rfl).2.2 k m (by rw [HN.out]; exact hlt) hlt2
                    rw [HR.out, HR2.out] at this
                    exact absurd ⟨e1, e2⟩ this
                clear e1 e2 hap hok
                go_wp2_with fail
                go_quiet (fail)
                go_wp2
                go_ret
                exact ⟨by rw [HB.out]; rfl, below_drewN hb3 _⟩
              · have e3 : t2.toList = t.toList := by rw [e1]
                have e4 : (q2 == q) = false := by simpa using e2
                have hap' := hap.succ (by rw [HR.out, HR2.out]; exact fun h => e2 h.2)
                clear e1 e2 hap
                go_wp2_with fail
                go_quiet (fail)
                go_wp2
                go_roundw
                case rel => exact ⟨m + 1, by omega, by go_num, hap', below_drewN hb3 _⟩
                case measure => simp [intOf]; omega
            · have e3 := toList_nei e1
              have e5 : (t2.toList == t.toList) = false := by simpa using e3
              have hap' := hap.succ (by rw [HR.out, HR2.out]; exact fun h => e1 h.1)
              clear e1 hap
              go_wp2_with fail
              go_quiet (fail)
              go_wp2
              go_roundw
              case rel => exact ⟨m + 1, by omega, by go_num, hap', below_drewN hb3 _⟩
              case measure => simp [intOf]; omega
          · have hok' : TbUp T (k + 1) := hok.succ (by rw [HR.out]; exact HVV.out) (fun j hj => hap j (by omega))
            clear hap hok
            go_wp2
            go_roundw
            case rel => exact ⟨k + 1, by omega, by go_num, hok', hb3⟩
            case measure => simp [intOf]; omega
      · have HV : Hid (decide (ValidR ⟨t, zs, q⟩) = false) := decide_eq_false hv
        have HB : Hid (b = false) := by
          show b = false
          cases b
          · rfl
          · have := (hb.out.1 rfl).2.1 k (by rw [HN.out]; exact hlt)
            rw [HR.out] at this
            exact absurd this hv
        clear hv hok
        have HU1 : IntsAt wr (.slice a2 zs.length cp2) zs := HU.out.below hb1
        go_wp2_with fail
        refine (s_validRule_v wr _ t zs q false HU1 hrf.1 HV).mono ?_
        rintro e w2 ⟨rfl, hb2⟩
        go_wp2
        go_ret
        exact ⟨by rw [HB.out]; rfl, hb1.trans (hb2.mono hsz)⟩
    · obtain rfl : k = n := by omega
      by_cases hbig : k ≤ 16
      · have HB : Hid (b = true) := hb.out.2 ⟨by rw [HN.out]; exact hbig, fun i hi => hok.1 i (by have := HN.out; omega), fun i j hi hj => hok.2 i j (by have := HN.out; omega) hj⟩
        have d1 : decide ((k : Int) ≤ 16) = true := decide_eq_true (by omega)
        go_wp2
        go_ret
        exact ⟨by rw [HB.out]; rfl, hb1⟩
      · have HB : Hid (b = false) := by
          show b = false
          cases b
          · rfl
          · have := (hb.out.1 rfl).1; have := HN.out; omega
        have d1 : decide ((k : Int) ≤ 16) = false := decide_eq_false (by omega)
        go_wp2
        go_ret
        exact ⟨by rw [HB.out]; rfl, hb1⟩
end Go.Proofs.Ytdjgodemeaneeaa
