
/- The words of lines: both sides. -/
import Derived.Test.YtnbppackijjohaaLl
namespace Go.Proofs.Ytnbppackijjohaa
open Go.RowKit

theorem fold_len (line : List Int) : ∀ s : List (List Int) × List Int, (line.foldl wStep s).1.length + (line.foldl wStep s).2.length ≤ s.1.length + s.2.length + line.length := by
  induction line with
  | nil => intro s; simp
  | cons c r ih =>
    intro s
    rw [List.foldl_cons]
    have h1 := ih (wStep s c)
    have h2 : (wStep s c).1.length + (wStep s c).2.length ≤ s.1.length + s.2.length + 1 := by
      unfold wStep
      by_cases h : c ≠ 0
      · simp [h]; omega
      · by_cases h2 : s.2 = []
        · simp [h, h2]
        · simp [h, h2]
    simp only [List.length_cons]
    omega
theorem wol_len (line : List Int) : (wol line).length ≤ line.length := by
  have h := fold_len line ([], [])
  unfold wol wEnd
  split
  · simp at h; omega
  · next hz =>
    have : 0 < (line.foldl wStep ([], [])).2.length := List.length_pos_iff.2 hz
    rw [List.length_append, List.length_singleton]
    simp at h; omega
theorem wolAll_len {L : List (List Int)} (h : Len40 L) (k : Nat) (hk : k ≤ L.length) : (wolAll (L.take k)).length ≤ 40 * k := by
  induction k with
  | zero => simp [wolAll]
  | succ k ih =>
    have h1 := ih (by omega)
    have h2 := h k
    have h3 := wol_len (L.getD k [])
    rw [wolAll_succ L (by omega), List.length_append]
    omega
theorem LinesOk.len {L : List (List Int)} {W : Int} (h : LinesOk L W) : Len40 L := fun k => by
  by_cases hk : k < L.length
  · have := (h.2.2 k hk).1; have := h.2.1.2; omega
  · rw [List.getD_eq_getElem?_getD, List.getElem?_eq_none (by omega)]; simp
/-- the words of lines, if they are not too many -/
def wlR (L : List (List Int)) (b : Bool) : List (List Int) := if b = true ∧ (wolAll L).length ≤ 30 then wolAll L else []
theorem wlR_false (L : List (List Int)) : wlR L false = [] := rfl
theorem wlR_few {L : List (List Int)} (h : (wolAll L).length ≤ 30) : wlR L true = wolAll L := if_pos ⟨rfl, h⟩
theorem wlR_many {L : List (List Int)} (h : ¬ (wolAll L).length ≤ 30) : wlR L true = [] := if_neg fun k => h k.2
set_option maxHeartbeats 2000000 in
theorem i_WordsOfLines (w : World) (v : Value) (L : List (List Int)) (W : Int) (b : Bool) (hx : ListsAt w v L) (hb : Hid (b = true ↔ LinesOk L W)) :
    Calls Try.prog 19 #[v, .int .i64 W] w fun e w' => LsOut (wlR L b) w e w' := by
  have HX := keptL hx
  obtain ⟨a, cp, rfl, x1, x2, _⟩ := hx
  obtain ⟨n, hn⟩ : ∃ n, L.length = n := ⟨_, rfl⟩
  rw [hn] at x1 HX ⊢
  have HN := Lib.hid hn
  clear hn
  have hO0 := OwnLs.nil w w.heap.size 0 (Nat.zero_le _)
  cases b with
  | false =>
    go_enter Try.func19, Try.ntmps19
    go_wp2_with fail
    refine (i_areLines_b w _ L W false HX.out hb).mono ?_
    rintro e w1 ⟨rfl, rfl⟩
    clear hb
    go_wp2
    go_ret
    exact ⟨_, _, _, rfl, hO0, Below.refl _ _⟩
  | true =>
    have HOK : Hid (LinesOk L W) := hb.out.1 rfl
    have hn30 : n ≤ 30 := by have := HOK.out.1; rw [HN.out] at this; exact this
    go_enter Try.func19, Try.ntmps19
    go_wp2_with fail
    refine (i_areLines_b w _ L W true HX.out (show _ ↔ _ from ⟨fun _ => HOK.out, fun _ => rfl⟩)).mono ?_
    rintro e w1 ⟨rfl, rfl⟩
    clear hb
    go_wp2_with fail
    go_loopw [5, 14] (fun o i wr => ∃ (k : Nat) (P : List (List Int)), k ≤ n ∧ i = .int .i64 k ∧ OwnLs wr w.heap.size 0 o P ∧ Below w.heap.size w wr ∧ Hid (P = wolAll (L.take k))) (fun _ i _ => n - (intOf i).toNat)
    case atStart => exact ⟨0, [], Nat.zero_le _, rfl, hO0, Below.refl _ _, rfl⟩
    case round =>
      clear hO0
      obtain ⟨k, P, hk, rfl, hO, hB, HP⟩ := hrel
      obtain ⟨ao, no, co, hoo⟩ := hO.isSlice
      subst hoo
      have hno : no = P.length := by
        obtain ⟨_, _, e, _⟩ := hO.at
        injection e with _ e2 _
      have HNO := keptL hno
      have HO := keptL hO
      have HB := keptL hB
      have hsz := hB.size
      have hPl : P.length ≤ 40 * k := by have := wolAll_len HOK.out.len k (by rw [HN.out]; exact hk); rw [← HP.out] at this; exact this
      by_cases hlt : k < n
      · obtain ⟨g, off, u, rfl, c0, hu⟩ := HX.out.someNth hlt
        have c1 := (hB.cell (World.block_lt_of_cell? w _ c0)).trans c0
        have HU := keptL (hu.below hB)
        obtain ⟨zs, hzs⟩ : ∃ zs, L.getD k [] = zs := ⟨_, rfl⟩
        rw [hzs] at HU hu
        have hz40 : zs.length ≤ 40 := by rw [← hzs]; exact HOK.out.len k
        have hw40 := wol_len zs
        have HP' : Hid (P ++ wol zs = wolAll (L.take (k + 1))) := by
          show _ = _
          rw [wolAll_succ L (by rw [HN.out]; exact hlt), hzs, ← HP.out]
        obtain ⟨a3, c3, rfl, y1, y2, _⟩ := hu
        have b1 : (0 : Int) ≤ (k : Int) := by omega
        have b2 : (k : Int) < (n : Int) := by omega
        clear hzs hO hB hno c0 HP
        go_wp2_with fail
        refine (i_wordsOfLine wr _ zs HU.out (by omega)).mono ?_
        rintro e w3 ⟨a6, n6, c6, rfl, hI, hb3⟩
        have HI := keptL hI
        have HO3 := keptL (HO.out.below hb3)
        have HB3 := keptL (below_nextL HB.out hsz hb3)
        have hsz3 := HB3.out.size
        have hl3 : P.length + (wol zs).length ≤ 100000 := by omega
        clear hI hb3
        go_wp2_with (at_builtin; go_loud (refine wpList_append_lss rfl _ _ rfl w.heap.size wr.heap.size rfl rfl HO3.out HI.out hl3 hsz3 ?_))
        intro v9 w9 hown9 hgrow9
        have HO9 : Hid (OwnLs w9 w.heap.size 0 v9 (P ++ wol zs)) := hown9
        have HB9 := keptL (HB3.out.grown hgrow9 hsz3 (fun x hx => (HO3.out.row x hx).1))
        clear hown9 hgrow9
        go_wp2
        go_roundw
        case rel => exact ⟨k + 1, P ++ wol zs, by omega, by go_num, HO9.out, HB9.out, HP'⟩
        case measure => simp [intOf]; omega
      · obtain rfl : k = n := by omega
        have HA : Hid (P = wolAll L) := by
          show _ = _
          rw [HP.out, ← HN.out, List.take_length]
        clear hO hB hno HP
        by_cases hmany : no ≤ 30
        · have d1 : decide (30 < (no : Int)) = false := decide_eq_false (by omega)
          have HF : Hid (wlR L true = P) := by
            show _ = _
            rw [wlR_few (by rw [← HA.out, ← HNO.out]; exact hmany), HA.out]
          clear HA
          go_wp2
          go_ret
          exact ⟨_, _, _, rfl, by rw [HF.out]; exact HO.out, HB.out⟩
        · have d1 : decide (30 < (no : Int)) = true := decide_eq_true (by omega)
          have HF : Hid (wlR L true = []) := wlR_many (by rw [← HA.out, ← HNO.out]; exact hmany)
          clear HA
          go_wp2
          go_ret
          exact ⟨_, _, _, rfl, by rw [HF.out]; exact OwnLs.nil _ _ _ (Nat.zero_le _), HB.out⟩
end Go.Proofs.Ytnbppackijjohaa
