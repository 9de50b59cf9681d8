
/- What the exact laws write into a copy of a grid: numbers alone. -/
import Derived.Test.YtidjnhlioebchaaZf
namespace Go.Proofs.Ytidjnhlioebchaa
open Go.RowKit

/-- numbers alone are written, in blocks from base up to top -/
structure NumStep (base top : Nat) (w w' : World) : Prop where
  os : w'.os = w.os
  tape : w'.tape = w.tape
  output : w'.output = w.output
  size : w.heap.size ≤ w'.heap.size
  block : ∀ b, (b < base ∨ top ≤ b) → b < w.heap.size → w'.heap[b]? = w.heap[b]?
  keep : ∀ p u, w.cell? p = some u → (∀ z, u ≠ .int .i64 z) → w'.cell? p = some u
  num : ∀ p z, w.cell? p = some (.int .i64 z) → ∃ z', w'.cell? p = some (.int .i64 z')
  froz : ∀ p, w'.frozen? p = w.frozen? p
theorem NumStep.refl (base top : Nat) (w : World) : NumStep base top w w := ⟨rfl, rfl, rfl, Nat.le_refl _, fun _ _ _ => rfl, fun _ _ h _ => h, fun _ z h => ⟨z, h⟩, fun _ => rfl⟩
theorem NumStep.trans {base top : Nat} {a b c : World} (h : NumStep base top a b) (k : NumStep base top b c) : NumStep base top a c :=
  ⟨k.os.trans h.os, k.tape.trans h.tape, k.output.trans h.output, Nat.le_trans h.size k.size, fun q hq hl => (k.block q hq (Nat.lt_of_lt_of_le hl h.size)).trans (h.block q hq hl), fun p u hp hu => k.keep p u (h.keep p u hp hu) hu, fun p z hp => by obtain ⟨z', e⟩ := h.num p z hp; exact k.num p z' e, fun p => (k.froz p).trans (h.froz p)⟩
theorem NumStep.store {base top : Nat} (w : World) {g o : Nat} {z z' : Int} (hc : w.cell? ⟨g, o, none⟩ = some (.int .i64 z)) (h0 : base ≤ g) (h1 : g < top) : NumStep base top w (w.setCell ⟨g, o, none⟩ (.int .i64 z')) := by
  refine ⟨rfl, rfl, rfl, by simp [World.setCell], fun b hb _ => heap_setCell_other w ⟨g, o, none⟩ b _ (by simp; omega), fun p u hp hu => ?_, fun p y hp => ?_, fun p => World.frozen?_setCell _ _ _ _⟩
  · by_cases e : p = ⟨g, o, none⟩
    · subst e
      rw [hc] at hp
      injection hp with hp
      exact absurd hp.symm (hu z)
    · rw [World.cell?_setCell_other _ _ _ _ (fun h => e h.symm)]; exact hp
  · by_cases e : p = ⟨g, o, none⟩
    · subst e
      exact ⟨z', World.cell?_setCell_same w _ _ hc⟩
    · exact ⟨y, by rw [World.cell?_setCell_other _ _ _ _ (fun h => e h.symm)]; exact hp⟩
/-- a slice of n numbers that may be written, in a block from base up to top -/
def NumsF (w : World) (base top : Nat) (v : Value) (n : Nat) : Prop :=
  ∃ a cp, v = .slice a n cp ∧ n ≤ 1048576 ∧ (n = 0 ∨ ∃ g off, a = some ⟨g, off, none⟩ ∧ base ≤ g ∧ g < top ∧ ∀ i, i < n → (∃ z, w.cell? ⟨g, off + i, none⟩ = some (.int .i64 z)) ∧ w.frozen? ⟨g, off + i, none⟩ = false)
theorem NumsF.step {w w' : World} {base top : Nat} {v : Value} {n : Nat} (h : NumsF w base top v n) (hs : NumStep base top w w') : NumsF w' base top v n := by
  obtain ⟨a, cp, h1, h2, h3⟩ := h
  refine ⟨a, cp, h1, h2, h3.imp id ?_⟩
  rintro ⟨g, off, h4, h5, h6, h7⟩
  refine ⟨g, off, h4, h5, h6, fun i hi => ?_⟩
  obtain ⟨⟨z, hz⟩, hf⟩ := h7 i hi
  exact ⟨hs.num _ z hz, (hs.froz _).trans hf⟩
def RowF (w : World) (base top : Nat) (v : Value) (L : List (List Int)) : Prop :=
  ∃ a cp, v = .slice a L.length cp ∧ L.length ≤ 1048576 ∧ (L.length = 0 ∨ ∃ g off, a = some ⟨g, off, none⟩ ∧ ∀ i, i < L.length → ∃ a' n' c', w.cell? ⟨g, off + i, none⟩ = some (.slice a' n' c') ∧ NumsF w base top (.slice a' n' c') n')
theorem RowF.step {w w' : World} {base top : Nat} {v : Value} {L : List (List Int)} (h : RowF w base top v L) (hs : NumStep base top w w') : RowF w' base top v L := by
  obtain ⟨a, cp, h1, h2, h3⟩ := h
  refine ⟨a, cp, h1, h2, h3.imp id ?_⟩
  rintro ⟨g, off, h4, h7⟩
  refine ⟨g, off, h4, fun i hi => ?_⟩
  obtain ⟨a', n', c', hc, hn⟩ := h7 i hi
  exact ⟨a', n', c', hs.keep _ _ hc (fun z e => by simp at e), hn.step hs⟩
def GridF (w : World) (base top : Nat) (v : Value) (G : List (List (List Int))) : Prop :=
  ∃ a cp, v = .slice a G.length cp ∧ G.length ≤ 1048576 ∧ (G.length = 0 ∨ ∃ g off, a = some ⟨g, off, none⟩ ∧ ∀ i, i < G.length → ∃ a' n' c' L, w.cell? ⟨g, off + i, none⟩ = some (.slice a' n' c') ∧ RowF w base top (.slice a' n' c') L)
theorem GridF.step {w w' : World} {base top : Nat} {v : Value} {G : List (List (List Int))} (h : GridF w base top v G) (hs : NumStep base top w w') : GridF w' base top v G := by
  obtain ⟨a, cp, h1, h2, h3⟩ := h
  refine ⟨a, cp, h1, h2, h3.imp id ?_⟩
  rintro ⟨g, off, h4, h7⟩
  refine ⟨g, off, h4, fun i hi => ?_⟩
  obtain ⟨a', n', c', L, hc, hn⟩ := h7 i hi
  exact ⟨a', n', c', L, hs.keep _ _ hc (fun z e => by simp at e), hn.step hs⟩
theorem ListNeF.nums {w : World} {g j base : Nat} {zs : List Int} (h : ListNeF w g j zs) (hb : base ≤ g) : ∃ a' n' c', w.cell? ⟨g, j, none⟩ = some (.slice a' n' c') ∧ NumsF w base w.heap.size (.slice a' n' c') n' := by
  obtain ⟨b, h1, h2, h3, h4, h5, h6⟩ := h
  exact ⟨_, _, _, h1, _, _, rfl, h3, .inr ⟨b, 0, rfl, by omega, h5, fun i hi => by rw [Nat.zero_add]; exact ⟨⟨_, h4 i hi⟩, h6 i⟩⟩⟩
theorem RowNeF.rowF {w : World} {g j base : Nat} {L : List (List Int)} (h : RowNeF w g j L) (hb : base ≤ g) : ∃ a' n' c', w.cell? ⟨g, j, none⟩ = some (.slice a' n' c') ∧ RowF w base w.heap.size (.slice a' n' c') L := by
  obtain ⟨b, h1, h2, h3, h4⟩ := h
  exact ⟨_, _, _, h1, _, _, rfl, h3, .inr ⟨b, 0, rfl, fun i hi => by rw [Nat.zero_add]; exact (h4 i hi).nums (by omega)⟩⟩
theorem GNeFTo.gridF {w : World} {g base : Nat} {G : List (List (List Int))} (h : GNeFTo w g G G.length) (hb : base ≤ g) (hs : G.length ≤ 1048576) : GridF w base w.heap.size (.slice (some ⟨g, 0, none⟩) G.length G.length) G :=
  ⟨_, _, rfl, hs, .inr ⟨g, 0, rfl, fun i hi => by
    rw [Nat.zero_add]
    obtain ⟨a', n', c', h1, h2⟩ := (h i hi).rowF hb
    exact ⟨a', n', c', _, h1, h2⟩⟩⟩
set_option maxHeartbeats 1000000 in
theorem markIntS_f (w : World) (base top : Nat) (v : Value) (n : Nat) (s : Int) (hx : NumsF w base top v n) (h0 : 0 ≤ s) (h1 : s ≤ 4000000000000000000) :
    Calls Try.prog 35 #[v, .int .i64 s] w fun e w' => e = .returned (.int .i64 (s + n)) ∧ NumStep base top w w' := by
  have HX := keptZ hx
  obtain ⟨a, cp, rfl, hn, x3⟩ := hx
  go_enter Try.func35, Try.ntmps35
  go_wp2
  go_loopw [1, 5] (fun m i wr => ∃ k : Nat, k ≤ n ∧ i = .int .i64 k ∧ m = .int .i64 (s + k) ∧ Hid (NumStep base top w wr)) (fun _ i _ => n - (intOf i).toNat)
  case atStart => exact ⟨0, Nat.zero_le _, rfl, by simp, NumStep.refl _ _ _⟩
  case round =>
    obtain ⟨k, hk, rfl, rfl, HB⟩ := hrel
    by_cases hlt : k < n
    · rcases x3 with rfl | ⟨g, off, rfl, hg0, hg1, x3⟩
      · omega
      obtain ⟨⟨z, c0⟩, f0⟩ := x3 k hlt
      obtain ⟨z', c1⟩ := HB.out.num _ z c0
      have f1 := (HB.out.froz ⟨g, off + k, none⟩).trans f0
      have HB2 := keptZ (HB.out.trans (NumStep.store (z' := s + k) _ c1 hg0 hg1))
      clear x3 c0 f0 HX
      go_wp2
      go_roundw
      case rel => exact ⟨k + 1, by omega, by go_num, by go_num, HB2⟩
      case measure => simp [intOf]; omega
    · obtain rfl : k = n := by omega
      go_wp2
      go_ret
      exact ⟨rfl, HB.out⟩
set_option maxHeartbeats 1000000 in
theorem markIntSS_f (w : World) (base top : Nat) (v : Value) (L : List (List Int)) (s : Int) (hx : RowF w base top v L) (h0 : 0 ≤ s) (h1 : s ≤ 2000000000000000000) :
    Calls Try.prog 38 #[v, .int .i64 s] w fun e w' => ∃ r : Int, e = .returned (.int .i64 r) ∧ s ≤ r ∧ r ≤ s + 1048576 * 1048576 ∧ NumStep base top w w' := by
  have HX := keptZ hx
  obtain ⟨a, cp, rfl, hn, x3⟩ := hx
  obtain ⟨n, hn'⟩ : ∃ n, L.length = n := ⟨_, rfl⟩
  rw [hn'] at hn x3 ⊢
  have HN := Lib.hid hn'
  clear hn'
  go_enter Try.func38, Try.ntmps38
  go_wp2
  go_loopw [1, 5] (fun m i wr => ∃ (k : Nat) (r : Int), k ≤ n ∧ i = .int .i64 k ∧ m = .int .i64 r ∧ s ≤ r ∧ r ≤ s + 1048576 * k ∧ Hid (NumStep base top w wr)) (fun _ i _ => n - (intOf i).toNat)
  case atStart => exact ⟨0, s, Nat.zero_le _, rfl, rfl, by omega, by omega, NumStep.refl _ _ _⟩
  case round =>
    obtain ⟨k, r, hk, rfl, rfl, hr0, hr1, HB⟩ := hrel
    by_cases hlt : k < n
    · rcases x3 with rfl | ⟨g, off, rfl, x3⟩
      · omega
      obtain ⟨a', m, c', c0, hF⟩ := x3 k hlt
      have c1 := HB.out.keep _ _ c0 (fun z e => by simp at e)
      have HF := keptZ (hF.step HB.out)
      have hm : m ≤ 1048576 := by obtain ⟨_, _, _, h, _⟩ := hF; exact h
      clear x3 c0 hF
      go_wp2_with fail
      refine (markIntS_f _ base top _ m r HF.out (by omega) (by omega)).mono ?_
      rintro e w2 ⟨rfl, hs2⟩
      have HB2 := keptZ (HB.out.trans hs2)
      clear hs2 c1
      go_wp2
      go_roundw
      case rel => exact ⟨k + 1, r + m, by omega, by go_num, rfl, by omega, by omega, HB2⟩
      case measure => simp [intOf]; omega
    · obtain rfl : k = n := by omega
      go_wp2
      go_ret
      exact ⟨r, rfl, hr0, by omega, HB.out⟩
set_option maxHeartbeats 1000000 in
theorem markIntSSS_f (w : World) (base top : Nat) (v : Value) (G : List (List (List Int))) (hx : GridF w base top v G) :
    Calls Try.prog 34 #[v, .int .i64 1] w fun e w' => ∃ r : Int, e = .returned (.int .i64 r) ∧ 1 ≤ r ∧ NumStep base top w w' := by
  have HX := keptZ hx
  obtain ⟨a, cp, rfl, hn, x3⟩ := hx
  obtain ⟨n, hn'⟩ : ∃ n, G.length = n := ⟨_, rfl⟩
  rw [hn'] at hn x3 ⊢
  have HN := Lib.hid hn'
  clear hn'
  go_enter Try.func34, Try.ntmps34
  go_wp2
  go_loopw [1, 5] (fun m i wr => ∃ (k : Nat) (r : Int), k ≤ n ∧ i = .int .i64 k ∧ m = .int .i64 r ∧ 1 ≤ r ∧ r ≤ 1 + 1048576 * 1048576 * k ∧ Hid (NumStep base top w wr)) (fun _ i _ => n - (intOf i).toNat)
  case atStart => exact ⟨0, 1, Nat.zero_le _, rfl, rfl, by omega, by omega, NumStep.refl _ _ _⟩
  case round =>
    obtain ⟨k, r, hk, rfl, rfl, hr0, hr1, HB⟩ := hrel
    by_cases hlt : k < n
    · rcases x3 with rfl | ⟨g, off, rfl, x3⟩
      · omega
      obtain ⟨a', m, c', L, c0, hF⟩ := x3 k hlt
      have c1 := HB.out.keep _ _ c0 (fun z e => by simp at e)
      have HF := keptZ (hF.step HB.out)
      clear x3 c0 hF
      go_wp2_with fail
      refine (markIntSS_f _ base top _ L r HF.out (by omega) (by omega)).mono ?_
      rintro e w2 ⟨r2, rfl, hr2, hr3, hs2⟩
      have HB2 := keptZ (HB.out.trans hs2)
      clear hs2 c1
      go_wp2
      go_roundw
      case rel => exact ⟨k + 1, r2, by omega, by go_num, rfl, by omega, by omega, HB2⟩
      case measure => simp [intOf]; omega
    · obtain rfl : k = n := by omega
      go_wp2
      go_ret
      exact ⟨r, rfl, hr0, HB.out⟩
end Go.Proofs.Ytidjnhlioebchaa
