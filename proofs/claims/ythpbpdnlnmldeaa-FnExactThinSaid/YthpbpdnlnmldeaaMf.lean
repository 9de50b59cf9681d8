
/- A copy of lists owns all its memory. -/
import Derived.Test.YthpbpdnlnmldeaaMe
namespace Go.Proofs.Ythpbpdnlnmldeaa
open Go.RowKit

/-- a row of n places, the first k of them filled with lists of their own, each laid behind the one before it -/
def PartLL (w : World) (base g n : Nat) (L : List (List Int)) (k : Nat) : Prop :=
  ∃ (us : List Value) (B : Nat → Nat), w.ownsRow base 30 1 (.slice (some ⟨g, 0, none⟩) n n) n us ∧
    (∀ i, i < k → us[i]? = some (.slice (some ⟨B i, 0, none⟩) (L.getD i []).length (L.getD i []).length) ∧ OwnInts w base (.slice (some ⟨B i, 0, none⟩) (L.getD i []).length (L.getD i []).length) (L.getD i [])) ∧
    ∀ i j, i < j → j < k → B i < B j
theorem PartLL.below {w w' : World} {base g n k : Nat} {L : List (List Int)} (h : PartLL w base g n L k) (hb : Below w.heap.size w w') : PartLL w' base g n L k := by
  obtain ⟨us, B, h1, h2, h3⟩ := h
  exact ⟨us, B, row_of_block h1 fun q hq => hb.block q (h1.lt q hq).2, fun i hi => ⟨(h2 i hi).1, (h2 i hi).2.below hb⟩, h3⟩
theorem PartLL.put {w w2 : World} {base g n k b : Nat} {L : List (List Int)} {zs : List Int} (h : PartLL w base g n L k) (hb : Below w.heap.size w w2) (hk : k < n) (hL : L.getD k [] = zs) (hO : OwnInts w2 w.heap.size (.slice (some ⟨b, 0, none⟩) zs.length zs.length) zs) (hs : base ≤ w.heap.size) :
    PartLL (w2.setCell ⟨g, k, none⟩ (.slice (some ⟨b, 0, none⟩) zs.length zs.length)) base g n L (k + 1) ∧ w2.grownBy (w2.setCell ⟨g, k, none⟩ (.slice (some ⟨b, 0, none⟩) zs.length zs.length)) (some g) := by
  obtain ⟨us, B, h1, h2, h3⟩ := h
  have h1' : w2.ownsRow base 30 1 (.slice (some ⟨g, 0, none⟩) n n) n us := row_of_block h1 fun q hq => hb.block q (h1.lt q hq).2
  have hgg := h1'.lt
  obtain ⟨h4, h5⟩ := h1'.stored k (.slice (some ⟨b, 0, none⟩) zs.length zs.length)
  have hul : us.length = n := by have := h1.1; omega
  have hrow : ∃ cur, w2.heap[g]? = some (.cells cur 30 (0, 0)) := by
    rcases h1'.2 with ⟨hv, _⟩ | ⟨g', cap, cur, hv, _, hg, _⟩
    · injection hv with hv _ _; exact absurd hv (by simp)
    · injection hv with hv _ _
      injection hv with hv
      injection hv with hv _ _
      subst hv
      exact ⟨cur, hg⟩
  have hne : ∀ (q m c s : Nat) (ys : List Int), OwnInts w2 s (.slice (some ⟨q, 0, none⟩) m c) ys → OwnInts (w2.setCell ⟨g, k, none⟩ (.slice (some ⟨b, 0, none⟩) zs.length zs.length)) s (.slice (some ⟨q, 0, none⟩) m c) ys := fun q m c s ys hq => hq.kept h5 (.inr fun e => by
    obtain ⟨_, cur', h6⟩ := hq.typ
    obtain ⟨cur, h7⟩ := hrow
    have e2 : q = g := by simp [Value.ownBlock] at e; exact e
    rw [e2, h7] at h6
    injection h6 with h6
    injection h6 with _ h6 _
    exact absurd h6 (by decide))
  refine ⟨⟨us.set k (.slice (some ⟨b, 0, none⟩) zs.length zs.length), fun i => if i = k then b else B i, h4, fun i hi => ?_, fun i j hij hj => ?_⟩, h5⟩
  · by_cases e : i = k
    · subst e
      simp only [if_true]
      rw [hL]
      exact ⟨by rw [List.getElem?_set_self (by omega)], (hne _ _ _ _ _ hO).lowerM hs⟩
    · simp only [e, if_false]
      obtain ⟨h6, h7⟩ := h2 i (by omega)
      exact ⟨by rw [List.getElem?_set_ne (by omega)]; exact h6, hne _ _ _ _ _ (h7.below hb)⟩
  · have hik : i ≠ k := by omega
    simp only [hik, if_false]
    by_cases e : j = k
    · simp only [e, if_true]
      have h6 := ((h2 i (by omega)).2.lt (B i) rfl).2
      have h7 := hO.typ.1
      omega
    · simp only [e, if_false]
      exact h3 i j hij (by omega)
theorem PartLL.all {w : World} {base g n : Nat} {L : List (List Int)} (h : PartLL w base g n L n) (hn : L.length = n) : OwnLL w base w.heap.size (.slice (some ⟨g, 0, none⟩) n n) L := by
  obtain ⟨us, B, h1, h2, h3⟩ := h
  subst hn
  exact ⟨Nat.le_refl _, fun b hb => (h1.lt b hb).2, us, B, fun i => (L.getD i []).length, h1, fun i hi => ⟨(h2 i hi).1, (h2 i hi).2, ((h2 i hi).2.lt (B i) rfl).2⟩, fun i j hij hj => by have := h3 i j hij hj; omega⟩
set_option maxHeartbeats 2000000 in
theorem toIntSS_own (w : World) (v : Value) (L : List (List Int)) (hx : ListsAt w v L) (hs : Hid (ListsSmall L)) :
    Calls Try.prog 32 #[v] w fun e w' => ∃ a n c, e = .returned (.slice a n c) ∧ OwnLL w' w.heap.size w'.heap.size (.slice a n c) L ∧ Below w.heap.size w w' := by
  obtain ⟨i0, hi, hz0, hz1, hz2⟩ := info_parts infoIntL
  obtain ⟨a, cp, rfl, x1, x2, x3⟩ := hx
  obtain ⟨n, hn⟩ : ∃ n, L.length = n := ⟨_, rfl⟩
  rw [hn] at x1 x3 ⊢
  have hbig : n ≤ 1048576 := by have := hs.out.1; omega
  have HN := Lib.hid hn
  clear hn
  go_enter Try.func32, Try.ntmps32
  go_wp2_with (at_make; refine wpList_make_full _ rfl _ _ 23 rfl w.heap.size 30 i0 (.slice none 0 0) 1 Try.underlying23 hi hz0 hz1 .i64 .i64 n n n rfl rfl rfl rfl (by rw [hz2]; omega) (by unfold maxLen; omega) (Nat.le_refl _) ?_)
  intro w1 hown hgr
  have hB1 : Below w.heap.size w w1 := ⟨hgr.os, hgr.tape, hgr.output, hgr.size, fun k hk => hgr.block k hk (by simp)⟩
  have hP1 : PartLL w1 w.heap.size w.heap.size n L 0 := ⟨_, fun _ => 0, hown, fun i h => absurd h (by omega), fun i j _ h => absurd h (by omega)⟩
  clear hown hgr hi hz0 hz1 hz2
  go_wp2
  go_loopw [4] (fun i wr => ∃ k : Nat, k ≤ n ∧ i = .int .i64 k ∧ Hid (PartLL wr w.heap.size w.heap.size n L k) ∧ Hid (Below w.heap.size w wr)) (fun i _ => n - (intOf i).toNat)
  case atStart => exact ⟨0, Nat.zero_le _, rfl, hP1, hB1⟩
  case round =>
    clear hP1 hB1
    obtain ⟨k, hk, rfl, HP, HB⟩ := hrel
    have hsz := HB.out.size
    by_cases hlt : k < n
    · rcases x3 with rfl | ⟨g, off, rfl, x3⟩
      · exact absurd HN.out (by simp; omega)
      obtain ⟨u, c1, hu⟩ := x3 k hlt
      obtain ⟨zs, hr⟩ : ∃ zs, L.getD k [] = zs := ⟨_, rfl⟩
      have hls : (L.getD k []).length ≤ 1048576 := hs.out.2 k (by rw [HN.out]; exact hlt)
      rw [hr] at hu hls
      have HR := Lib.hid hr
      clear hr x3
      have HU : Hid (IntsAt w u zs) := hu
      obtain ⟨a2, cp2, rfl, h1, h2, _⟩ := hu
      have c1 := (HB.out.cell (World.block_lt_of_cell? w _ c1)).trans c1
      go_wp2_with fail
      refine (toIntS_any wr _ zs (HU.out.below HB.out) hls).mono ?_
      rintro e w2 ⟨_, rfl, hO, hb2, g2, rfl⟩
      obtain ⟨hP3, hg3⟩ := HP.out.put hb2 hlt HR.out hO hsz
      have hB2 := HB.out.trans (hb2.mono hsz)
      have hB3 : Below w.heap.size w (w2.setCell ⟨w.heap.size, k, none⟩ (.slice (some ⟨g2, 0, none⟩) zs.length zs.length)) := hB2.setCell (p := ⟨w.heap.size, k, none⟩) (Nat.le_refl _) (.slice (some ⟨g2, 0, none⟩) zs.length zs.length)
      have hrow2 : ∃ us, w2.ownsRow w.heap.size 30 1 (.slice (some ⟨w.heap.size, 0, none⟩) n n) n us := by
        obtain ⟨us, _, q1, _⟩ := HP.out.below hb2
        exact ⟨us, q1⟩
      obtain ⟨us, hrow⟩ := hrow2
      have e0 : ∃ u0, w2.cell? ⟨w.heap.size, k, none⟩ = some u0 := by
        have h9 := hrow.cells (g := w.heap.size) (by simp [Value.ownBlock]) k (us[k]'(by have := hrow.1; omega)) (List.getElem?_eq_getElem _)
        rw [Addr.add_lit, Nat.zero_add] at h9
        exact ⟨_, h9⟩
      obtain ⟨u0, e0⟩ := e0
      have f0 := hrow.frozenAt k
      have HP3 := keptM hP3
      have HB3 := keptM hB3
      clear hP3 hg3 hB2 hB3 hrow hO hb2 HP HB c1
      go_wp2
      go_roundw
      case rel => exact ⟨k + 1, by omega, by go_num, HP3, HB3⟩
      case measure => simp [intOf]; omega
    · obtain rfl : k = n := by omega
      have HF := keptM (HP.out.all HN.out)
      go_wp2
      go_ret
      exact ⟨_, _, _, rfl, HF.out, HB.out⟩
end Go.Proofs.Ythpbpdnlnmldeaa
