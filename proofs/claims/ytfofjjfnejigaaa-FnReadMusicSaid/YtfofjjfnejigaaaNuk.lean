
/- Reading one note: both sides. -/
import Derived.Test.YtfofjjfnejigaaaNuj
namespace Go.Proofs.Ytfofjjfnejigaaa
open Go.RowKit

theorem results_cell_tmp {P : Program} {fn : Func} {p t2 : Tmp} {ty : TypeId} (h : fn.results = #[.cell p ty, .tmp t2]) (tmps : Array Value) (w : World) (g : Nat) (t : TypeId) (cs : Array Value) (fr : Nat × Nat) (d : TypeDesc)
    (hp : tmps.getD p undef = .pointer (some ⟨g, 0, none⟩)) (hg : w.heap[g]? = some (.cells cs t fr))
    (hu : P.underlying ty = some d) (hd : (match d with | .struct _ | .array _ _ => true | _ => false) = true) (hi : (P.info? ty).map (·.size) = some cs.size) :
    (results fn tmps).run P w = .ok (.tuple #[.agg cs, tmps.getD t2 undef]) w := by
  have hp' : tmps[p]?.getD undef = .pointer (some ⟨g, 0, none⟩) := by simpa using hp
  simp [results, h, hp', asAddr, run_loadVar_row w g t ty cs fr d hg hu hd hi]
/-- what the program's noteOf answers -/
def NoIs (c o l : Int) (x : PNote) (ok : Bool) : Prop :=
  (∃ v, V4 v ∧ restC v = c ∧ x = ⟨-1, v⟩ ∧ ok = true) ∨
  (∃ v s p, V4 v ∧ S7 s ∧ candC s v = c ∧ PitchIs s o l p ∧ x = ⟨p, v⟩ ∧ (ok = true ↔ (0 ≤ p ∧ p ≤ 48))) ∨
  ((∀ v, V4 v → restC v ≠ c ∧ ∀ s, S7 s → candC s v ≠ c) ∧ ok = false)
def NoteOut (q : PNote → Bool → Prop) (w : World) (e : Ending) (w' : World) : Prop :=
  ∃ p v ok, e = .returned (.tuple #[.agg #[.int .i64 p, .int .i64 v], .bool ok]) ∧ q ⟨p, v⟩ ok ∧ Below w.heap.size w w'
theorem candC_bd {s v : Int} (h1 : S7 s) (h2 : V4 v) : stepL.getD s.toNat 0 + valL.getD v.toNat 0 = candC s v ∧ 0 ≤ stepL.getD s.toNat 0 ∧ stepL.getD s.toNat 0 ≤ 27 ∧ 0 ≤ valL.getD v.toNat 0 ∧ valL.getD v.toNat 0 ≤ 36 := by
  refine ⟨rfl, ?_⟩
  obtain ⟨a0, a1⟩ := h1
  obtain ⟨b0, b1⟩ := h2
  have ha : s = 0 ∨ s = 1 ∨ s = 2 ∨ s = 3 ∨ s = 4 ∨ s = 5 ∨ s = 6 := by omega
  have hb : v = 0 ∨ v = 1 ∨ v = 2 ∨ v = 3 := by omega
  rcases ha with rfl | rfl | rfl | rfl | rfl | rfl | rfl <;> rcases hb with rfl | rfl | rfl | rfl <;> decide
set_option maxHeartbeats 2000000 in
theorem i_noteOf (w : World) (c o l : Int) (ho : -1 ≤ o ∧ o ≤ 6) (hl : -1 ≤ l ∧ l ≤ 48) :
    Calls Try.prog 59 #[.int .i64 c, .int .i64 o, .int .i64 l] w fun e w' => NoteOut (NoIs c o l) w e w' := by
  go_enter Try.func59, Try.ntmps59
  go_wp2
  go_loop [8] (fun i => ∃ k : Nat, k ≤ 4 ∧ i = .int .i64 k ∧ ∀ v : Nat, v < k → restC v ≠ c ∧ ∀ s, S7 s → candC s v ≠ c) (fun i => 4 - (intOf i).toNat)
  case atStart => exact ⟨0, by omega, rfl, fun j h => absurd h (by omega)⟩
  case round =>
    obtain ⟨k, hk, rfl, hn⟩ := hrel
    by_cases hlt : k < 4
    · have d1 : decide ((k : Int) ≤ 3) = true := decide_eq_true (by omega)
      have hv : V4 (k : Int) := ⟨by omega, by omega⟩
      obtain ⟨x, hx⟩ : ∃ x, restL.getD ((k : Int)).toNat 0 = x := ⟨_, rfl⟩
      have HX := Lib.hid hx
      have hxr : restC (k : Int) = x := hx
      by_cases hxc : x = c
      · subst hxc
        have HF : Hid (NoIs x o l ⟨-1, (k : Int)⟩ true) := .inl ⟨_, hv, hxr, rfl, rfl⟩
        clear hn hx hxr hv
        go_wp2_with fail
        refine (i_restCell _ (k : Int) x (by omega) (by omega) HX).mono ?_
        rintro e w2 ⟨rfl, rfl⟩
        go_wp2
        refine bodyPost_ret (results_cell_tmp rfl _ _ w.heap.size _ #[.int .i64 (-1), .int .i64 (k : Int)] _ _ rfl (heap_alloc_new w _) Try.underlying35 rfl (by kernel_rfl)) rfl ?_
        exact ⟨(-1), (k : Int), true, rfl, HF.out, (Below.refl _ _).alloc (Nat.le_refl _) _⟩
      · have d2 : (x == c) = false := by simpa using hxc
        have HN := keptN hn
        have HXR : Hid (restC (k : Int) ≠ c) := by show _ ≠ _; rw [hxr]; exact hxc
        have HV := keptN hv
        clear hn hx hxc hxr hv
        go_wp2_with fail
        refine (i_restCell _ (k : Int) x (by omega) (by omega) HX).mono ?_
        rintro e w2 ⟨rfl, rfl⟩
        go_wp2_with fail
        go_loop [9] (fun i => ∃ j : Nat, j ≤ 7 ∧ i = .int .i64 j ∧ ∀ s : Nat, s < j → candC s k ≠ c) (fun i => 7 - (intOf i).toNat)
        case atStart => exact ⟨0, by omega, rfl, fun j h => absurd h (by omega)⟩
        case round =>
          obtain ⟨j, hj, rfl, hm⟩ := hrel
          by_cases hjt : j < 7
          · have d3 : decide ((j : Int) < 7) = true := decide_eq_true (by omega)
            have hs : S7 (j : Int) := ⟨by omega, by omega⟩
            obtain ⟨hc0, hc1, hc2, hc3, hc4⟩ := candC_bd hs HV.out
            obtain ⟨y, hy⟩ : ∃ y, stepL.getD ((j : Int)).toNat 0 = y := ⟨_, rfl⟩
            obtain ⟨z, hz⟩ : ∃ z, valL.getD ((k : Int)).toNat 0 = z := ⟨_, rfl⟩
            have HY := Lib.hid hy
            have HZ := Lib.hid hz
            rw [hy] at hc0 hc1 hc2
            rw [hz] at hc0 hc3 hc4
            have us : IntKind.i64.wrap (y + z) = y + z := IntWalk.i64_in _ (by omega)
            have HS := keptN hs
            by_cases hyc : y + z = c
            · have d4 : (y + z == c) = true := by simpa using hyc
              have HC : Hid (candC (j : Int) (k : Int) = c) := by show _ = _; rw [← hc0]; exact hyc
              clear hm hy hz hs hyc hc0
              go_wp2_with fail
              refine (i_stepCell _ (j : Int) y (by omega) (by omega) HY).mono ?_
              rintro e w2 ⟨rfl, rfl⟩
              go_wp2_with fail
              refine (i_valueCell _ (k : Int) z (by omega) (by omega) HZ).mono ?_
              rintro e w2 ⟨rfl, rfl⟩
              go_wp2_with fail
              refine (i_pitchOf _ (j : Int) o l HS.out ho hl).mono ?_
              rintro e w2 ⟨⟨p, rfl, hp⟩, rfl⟩
              obtain ⟨b, hb⟩ := boolOfN (0 ≤ p ∧ p ≤ 48)
              have HBB := keptN hb
              have HF : Hid (NoIs c o l ⟨p, (k : Int)⟩ b) := .inr (.inl ⟨_, _, p, HV.out, HS.out, HC.out, hp, rfl, hb⟩)
              clear hp hb
              go_wp2_with fail
              refine (i_isPitch_b _ p b HBB).mono ?_
              rintro e w2 ⟨rfl, rfl⟩
              go_wp2
              refine bodyPost_ret (results_cell_tmp rfl _ _ w.heap.size _ #[.int .i64 p, .int .i64 (k : Int)] _ _ rfl (heap_alloc_new w _) Try.underlying35 rfl (by kernel_rfl)) rfl ?_
              exact ⟨p, (k : Int), b, rfl, HF.out, (Below.refl _ _).alloc (Nat.le_refl _) _⟩
            · have d4 : (y + z == c) = false := by simpa using hyc
              have hm' : Hid (∀ s : Nat, s < j + 1 → candC s k ≠ c) := fun s hsj => by
                by_cases e : s = j
                · subst e; rw [← hc0]; exact hyc
                · exact hm s (by omega)
              clear hm hy hz hs hyc hc0
              go_wp2_with fail
              refine (i_stepCell _ (j : Int) y (by omega) (by omega) HY).mono ?_
              rintro e w2 ⟨rfl, rfl⟩
              go_wp2_with fail
              refine (i_valueCell _ (k : Int) z (by omega) (by omega) HZ).mono ?_
              rintro e w2 ⟨rfl, rfl⟩
              go_wp2
              go_round
              case rel => exact ⟨j + 1, by omega, by go_num, hm'.out⟩
              case measure => simp [intOf]; omega
          · obtain rfl : j = 7 := by omega
            have hn' : Hid (∀ v : Nat, v < k + 1 → restC v ≠ c ∧ ∀ s, S7 s → candC s v ≠ c) := fun v hv => by
              by_cases e : v = k
              · subst e
                refine ⟨HXR.out, fun s hs => ?_⟩
                have := hm s.toNat (by have := hs.1; have := hs.2; omega)
                rwa [Int.toNat_of_nonneg hs.1] at this
              · exact HN.out v (by omega)
            clear hm
            go_wp2
            go_round
            case rel => exact ⟨k + 1, by omega, by go_num, hn'.out⟩
            case measure => simp [intOf]; omega
    · obtain rfl : k = 4 := by omega
      have HF : Hid (NoIs c o l ⟨0, 0⟩ false) := .inr (.inr ⟨fun v hv => by
        have := hn v.toNat (by have := hv.1; have := hv.2; omega)
        rwa [Int.toNat_of_nonneg hv.1] at this, rfl⟩)
      clear hn
      go_wp2
      refine bodyPost_ret (results_cell_tmp rfl _ _ w.heap.size _ #[.int .i64 0, .int .i64 0] _ _ rfl (heap_alloc_new w _) Try.underlying35 rfl (by kernel_rfl)) rfl ?_
      exact ⟨0, 0, false, rfl, HF.out, (Below.refl _ _).alloc (Nat.le_refl _) _⟩
end Go.Proofs.Ytfofjjfnejigaaa
