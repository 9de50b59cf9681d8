
/- The words of lines own all their memory; the exact law of WordsOfLines. -/
import Derived.Test.YtnbppackijjohaaLn
import Derived.Test.YtnbppackijjohaaMg
namespace Go.Proofs.Ytnbppackijjohaa
open Go.RowKit

/-- an append of all of a row that was made behind the other -/
theorem wpList_append_lls {ops : Array Oper} {rest : List Oper} {o : Oper} {a : Act} {w : World} {Q : Exit → Act → World → Prop} (hgd : o.guard = none) (s x : Operand)
    (ho : o.op = .call { callee := .builtin .append, args := #[s, x], argTypes := #[23, 23] }) (base top top2 : Nat) {v u : Value} {P R : List (List Int)} (hs : a.eval s = v) (hx : a.eval x = u)
    (h1 : OwnLL w base top v P) (h2 : OwnLL w top top2 u R) (hl : P.length + R.length ≤ 100000) (hbase : base ≤ top)
    (h : ∀ v' w', OwnLL w' base w'.heap.size v' (P ++ R) → w.grownBy w' v.ownBlock → wpList Try.prog ops Q rest (a.put o.dst v') w') : wpList Try.prog ops Q (o :: rest) a w := by
  obtain ⟨i0, hi, hz0, hz1, hz2⟩ := info_parts infoLs
  have hrow := h1.ls.row
  have H1 := h1
  obtain ⟨k0, kv, us, B, C, k1, k2, k3⟩ := h1
  obtain ⟨l0, lv, us2, B2, C2, l1, l2, l3⟩ := h2
  have hul : us.length = P.length := by have := k1.1; omega
  have hul2 : us2.length = R.length := by have := l1.1; omega
  rcases l1.2 with ⟨hv, hn⟩ | ⟨g, cap, cur, hv, hb, hg, e1, e2, e3, e4⟩
  · have : R = [] := List.length_eq_zero_iff.1 hn
    subst this hv
    exact wpList_append_own_none hgd s x 23 ho base 28 i0 1 Try.underlying23 hi v _ us hs k1 hx (h v w (by rw [List.append_nil]; exact H1.top k0 (Nat.le_refl _)) (World.grownBy.refl w _))
  · subst hv
    have hcs := l1.cells (g := g) (by simp [Value.ownBlock])
    refine wpList_append_own w hgd s x 23 ho base 28 i0 (.slice none 0 0) 1 24 Try.underlying23 hi hz0 hz1 hz2 rfl (by decide) v P.length us hs k1 ⟨g, 0, none⟩ R.length cap us2 hx (by omega) ?_ ?_ (by unfold maxLen; omega) (by omega) (by omega) ?_
    · intro j u' hj
      exact hcs j u' hj
    · intro u' hu'
      obtain ⟨i, hi2, rfl⟩ := List.getElem_of_mem hu'
      have h4 := (l2 i (by omega)).1
      rw [List.getElem?_eq_getElem hi2] at h4
      injection h4 with h4
      rw [h4]; rfl
    · intro v' w' hown hgrow hnil
      have hne : ∀ (b n c base : Nat) (ys : List Int), OwnInts w base (.slice (some ⟨b, 0, none⟩) n c) ys → OwnInts w' base (.slice (some ⟨b, 0, none⟩) n c) ys := fun b n c base ys hb => hb.kept hgrow (.inr fun e => by
        obtain ⟨_, cur', h5⟩ := hb.typ
        obtain ⟨_, cur, h6⟩ := hrow b e.symm
        rw [h5] at h6
        injection h6 with h6
        injection h6 with _ h6 _
        exact absurd h6 (by decide))
      refine h v' w' ⟨Nat.le_refl _, fun k hk => (hown.lt k hk).2, us ++ us2, fun i => if i < P.length then B i else B2 (i - P.length), fun i => if i < P.length then C i else C2 (i - P.length), ?_, fun i hi => ?_, fun i j hij hj => ?_⟩ hgrow
      · rw [List.length_append]; exact hown
      · rw [List.length_append] at hi
        by_cases hip : i < P.length
        · obtain ⟨k4, k5, k6⟩ := k2 i hip
          have e : (P ++ R).getD i [] = P.getD i [] := by rw [List.getD_eq_getElem?_getD, List.getElem?_append_left hip, ← List.getD_eq_getElem?_getD]
          simp only [hip, if_true]
          rw [e]
          exact ⟨by rw [List.getElem?_append_left (by omega)]; exact k4, hne _ _ _ _ _ k5, by have := hgrow.size; omega⟩
        · obtain ⟨k4, k5, k6⟩ := l2 (i - P.length) (by omega)
          have e : (P ++ R).getD i [] = R.getD (i - P.length) [] := by rw [List.getD_eq_getElem?_getD, List.getElem?_append_right (by omega), ← List.getD_eq_getElem?_getD]
          simp only [hip, if_false]
          rw [e]
          exact ⟨by rw [List.getElem?_append_right (by omega), hul]; exact k4, (hne _ _ _ _ _ k5).lowerM hbase, by have := hgrow.size; omega⟩
      · rw [List.length_append] at hj
        by_cases hip : i < P.length
        · simp only [hip, if_true]
          by_cases hjp : j < P.length
          · simp only [hjp, if_true]; exact k3 i j hij hjp
          · simp only [hjp, if_false]
            have h6 := (k2 i hip).2.2
            have h7 := (l2 (j - P.length) (by omega)).2.1.typ.1
            omega
        · have hjp : ¬ j < P.length := by omega
          simp only [hip, hjp, if_false]
          exact l3 (i - P.length) (j - P.length) (by omega) (by omega)
theorem wol_long (line : List Int) : ∀ z ∈ wol line, z.length ≤ line.length := by
  have key : ∀ (line : List Int) (s : List (List Int) × List Int) (B : Nat), (∀ z ∈ s.1, z.length ≤ B + line.length) → s.2.length ≤ B → ∀ z ∈ wEnd (line.foldl wStep s), z.length ≤ B + line.length := by
    intro line
    induction line with
    | nil =>
      intro s B h1 h2 z hz
      unfold wEnd at hz
      by_cases h : s.2 = []
      · simp only [List.foldl_nil, h, if_true] at hz; exact h1 z hz
      · simp only [List.foldl_nil, h, if_false] at hz
        rcases List.mem_append.1 hz with hz | hz
        · exact h1 z hz
        · simp only [List.mem_singleton] at hz; subst hz; simp; exact h2
    | cons c r ih =>
      intro s B h1 h2 z hz
      rw [List.foldl_cons] at hz
      have := ih (wStep s c) (B + 1) ?_ ?_ z hz
      · simp only [List.length_cons]; omega
      · intro y hy
        unfold wStep at hy
        by_cases h : c ≠ 0
        · rw [if_pos h] at hy; have := h1 y hy; simp only [List.length_cons] at this; omega
        · by_cases h3 : s.2 = []
          · rw [if_neg h, if_pos h3] at hy; have := h1 y hy; simp only [List.length_cons] at this; omega
          · rw [if_neg h, if_neg h3] at hy
            rcases List.mem_append.1 hy with hy | hy
            · have := h1 y hy; simp only [List.length_cons] at this; omega
            · simp only [List.mem_singleton] at hy; subst hy; omega
      · unfold wStep
        by_cases h : c ≠ 0
        · rw [if_pos h]; simp; omega
        · by_cases h3 : s.2 = []
          · rw [if_neg h, if_pos h3]; omega
          · rw [if_neg h, if_neg h3]; simp
  intro z hz
  have := key line ([], []) 0 (fun y hy => by simp at hy) (by simp) z hz
  omega
theorem wlR_small {L : List (List Int)} {W : Int} {b : Bool} (hb : b = true ↔ LinesOk L W) : ListsSmall (wlR L b) := by
  unfold wlR
  by_cases h : b = true ∧ (wolAll L).length ≤ 30
  · rw [if_pos h]
    refine ⟨by omega, fun i hi => ?_⟩
    have hm := getD_memL hi
    obtain ⟨x, hx, hy⟩ := List.mem_flatMap.1 hm
    have h1 := wol_long x _ hy
    obtain ⟨k, hk, rfl⟩ := List.getElem_of_mem hx
    have h2 := (hb.1 h.1).len k
    rw [List.getD_eq_getElem?_getD, List.getElem?_eq_getElem hk, Option.getD_some] at h2
    omega
  · rw [if_neg h]
    exact ⟨by simp, fun i hi => absurd hi (by simp)⟩
set_option maxHeartbeats 2000000 in
theorem ll_wordsOfLine (w : World) (u : Value) (line : List Int) (hx : IntsAt w u line) (hn : line.length ≤ 1000) :
    Calls Try.prog 47 #[u] w fun e w' => LlOut (wol line) w e w' := by
  obtain ⟨i0, hi, hz0, hz1, hz2⟩ := info_parts infoInt
  obtain ⟨a, cp, rfl, x1, x2, x3⟩ := hx
  obtain ⟨n, hln⟩ : ∃ n, line.length = n := ⟨_, rfl⟩
  rw [hln] at x1 x3 hn ⊢
  have HN := Lib.hid hln
  clear hln
  have hO0 := OwnLL.nil w w.heap.size
  have hI0 := OwnInts.nil w w.heap.size
  go_enter Try.func47, Try.ntmps47
  go_wp2
  go_loopw [3, 4, 9] (fun o z' i wr => ∃ (k : Nat) (P : List (List Int)) (z : List Int) (wm : World), k ≤ n ∧ i = .int .i64 k ∧ Hid (WSt line k P z) ∧ Hid (OwnLL wm w.heap.size wm.heap.size o P) ∧ Hid (Below w.heap.size w wm) ∧ Hid (Below wm.heap.size wm wr) ∧ Hid (OwnInts wr wm.heap.size z' z) ∧ P.length + z.length ≤ k) (fun _ _ i _ => n - (intOf i).toNat)
  case atStart => exact ⟨0, [], [], w, Nat.zero_le _, rfl, WSt.zero _, hO0, Below.refl _ _, Below.refl _ _, hI0, by simp⟩
  case round =>
    clear hO0 hI0
    obtain ⟨k, P, z, wm, hk, rfl, HS, HO, HB, HB2, HI, hlen⟩ := hrel
    obtain ⟨ao, no, co, hoo⟩ := HO.out.ls.isSlice
    subst hoo
    obtain ⟨az, cz, hoo⟩ := HI.out.isSliceL
    subst hoo
    have hsz := HB2.out.size
    have hszw := HB.out.size
    have HBW := keptL (below_nextL HB.out hszw HB2.out)
    obtain ⟨m, hm⟩ : ∃ m, z.length = m := ⟨_, rfl⟩
    rw [hm] at HI hlen ⊢
    have HM := Lib.hid hm
    clear hm
    by_cases hlt : k < n
    · rcases x3 with rfl | ⟨g, off, rfl, x3⟩
      · exact absurd HN.out (by simp; omega)
      have cx := x3 k hlt
      have cx := (HBW.out.cell (World.block_lt_of_cell? w _ cx)).trans cx
      obtain ⟨y, hy⟩ : ∃ y, line.getD k 0 = y := ⟨_, rfl⟩
      rw [hy] at cx
      have HY := Lib.hid hy
      have b1 : (0 : Int) ≤ (k : Int) := by omega
      have b2 : (k : Int) < (n : Int) := by omega
      clear hy x3
      by_cases e : y = 0
      · subst e
        by_cases hm0 : m = 0
        · subst hm0
          have HS' : Hid (WSt line (k + 1) P z) := by
            have hz : z = [] := List.length_eq_zero_iff.1 HM.out
            subst hz
            exact HS.out.skip (by rw [HN.out]; exact hlt) HY.out
          clear HS
          go_wp2
          go_roundw
          case rel => exact ⟨k + 1, P, z, wm, by omega, by go_num, HS', HO, HB, HB2, HI, by rw [HM.out]; omega⟩
          case measure => simp [intOf]; omega
        · have HS' : Hid (WSt line (k + 1) (P ++ [z]) []) := HS.out.push (by rw [HN.out]; exact hlt) HY.out (by intro h; have := HM.out; rw [h] at this; simp at this; omega)
          have d0 : decide (0 < (m : Int)) = true := decide_eq_true (by omega)
          have HOr := keptL (HO.out.below HB2.out (Nat.le_refl _))
          clear HS
          obtain ⟨b6, c6', hv6, _⟩ := HI.out.shape (by have := HM.out; omega)
          injection hv6 with hv1 hv2 hv3
          subst hv1
          clear hv2 hv3
          have hal : Below wr.heap.size wr (wr.alloc (.cells #[.slice (some ⟨b6, 0, none⟩) m cz] 28)) := (Below.refl _ _).alloc (Nat.le_refl _) _
          have HO8 := keptL (HOr.out.below hal hsz)
          have HE8 : Hid (OwnInts (wr.alloc (.cells #[.slice (some ⟨b6, 0, none⟩) m cz] 28)) wm.heap.size (.slice (some ⟨b6, 0, none⟩) m cz) z) := HI.out.below hal
          have HC8 : Hid ((wr.alloc (.cells #[.slice (some ⟨b6, 0, none⟩) m cz] 28)).cell? ⟨wr.heap.size, 0, none⟩ = some (.slice (some ⟨b6, 0, none⟩) m cz)) := by
            show _ = _
            rw [cell_of_row _ wr.heap.size 0 _ _ _ (heap_alloc_new wr _)]; rfl
          have hl8 : P.length ≤ 100000 := by omega
          clear hal
          go_wp2_with (at_builtin; go_loud (refine wpList_append_ll rfl _ _ rfl w.heap.size wm.heap.size wr.heap.size b6 m cz z rfl rfl HO8.out HC8.out HE8.out HM.out hl8 hszw ?_))
          intro v9 w9 hown9 hgrow9
          have HO9 := keptL hown9
          have HB9 := keptL (grown_ls HBW.out (Nat.le_trans hszw hsz) HOr.out.ls hgrow9)
          have HB10 : Hid (Below w9.heap.size w9 (w9.alloc (.cells #[] 3))) := (Below.refl _ _).alloc (Nat.le_refl _) _
          have HI10 : Hid (OwnInts (w9.alloc (.cells #[] 3)) w9.heap.size (.slice (some ⟨w9.heap.size, 0, none⟩) 0 0) []) := OwnInts.made w9 w9.heap.size (Nat.le_refl _)
          have hl9 : (P ++ [z]).length + ([] : List Int).length ≤ k + 1 := by rw [List.length_append, List.length_singleton, List.length_nil]; omega
          clear hown9 hgrow9
          go_wp2
          go_roundw
          case rel => exact ⟨k + 1, P ++ [z], [], w9, by omega, by go_num, HS', HO9, HB9, HB10, HI10, hl9⟩
          case measure => simp [intOf]; omega
      · have e1 : (y != 0) = true := by simpa using e
        have HS' : Hid (WSt line (k + 1) P (z ++ [y])) := HS.out.add (by rw [HN.out]; exact hlt) HY.out e
        have hzl : z.length ≤ 1000 := by have := HM.out; omega
        have HI' : Hid (OwnInts wr wm.heap.size (.slice az m cz) z) := HI
        clear HS e
        go_wp2_with (at_builtin; go_loud (refine wpList_append_own _ rfl _ _ 28 rfl wm.heap.size 3 i0 (.int .i64 0) 1 8 Try.underlying28 hi hz0 hz1 hz2 rfl (by decide) _ _ _ rfl (HI.out.alloc _) ⟨wr.heap.size, 0, none⟩ 1 1 [.int .i64 y] rfl rfl new_one one_cell (by unfold maxLen; omega) (by omega) (by simp; omega) ?_))
        intro v5 w5 hown5 hgrow5 hnil5
        have HI5 := keptL (OwnInts.snoc hown5)
        have HB5 := keptL (below_append HB2.out hsz HI.out hgrow5)
        clear hown5 hgrow5 hnil5
        go_wp2
        go_roundw
        case rel => exact ⟨k + 1, P, z ++ [y], wm, by omega, by go_num, HS', HO, HB, HB5, HI5, by rw [List.length_append, List.length_singleton, HM.out]; omega⟩
        case measure => simp [intOf]; omega
    · obtain rfl : k = n := by omega
      have HOr := keptL (HO.out.below HB2.out (Nat.le_refl _))
      by_cases hm0 : m = 0
      · subst hm0
        have HF : Hid (wol line = P) := by
          have hz : z = [] := List.length_eq_zero_iff.1 HM.out
          subst hz
          exact HS.out.end0 (by rw [HN.out]; omega)
        clear HS
        go_wp2
        go_ret
        exact ⟨_, _, _, rfl, by rw [HF.out]; exact HOr.out.top hsz (Nat.le_refl _), HBW.out⟩
      · have HF : Hid (P ++ [z] = wol line) := (HS.out.end1 (by rw [HN.out]; omega) (by intro h; have := HM.out; rw [h] at this; simp at this; omega)).symm
        have d0 : decide (0 < (m : Int)) = true := decide_eq_true (by omega)
        clear HS
        obtain ⟨b6, c6', hv6, _⟩ := HI.out.shape (by have := HM.out; omega)
        injection hv6 with hv1 hv2 hv3
        subst hv1
        clear hv2 hv3
        have hal : Below wr.heap.size wr (wr.alloc (.cells #[.slice (some ⟨b6, 0, none⟩) m cz] 28)) := (Below.refl _ _).alloc (Nat.le_refl _) _
        have HO8 := keptL (HOr.out.below hal hsz)
        have HE8 : Hid (OwnInts (wr.alloc (.cells #[.slice (some ⟨b6, 0, none⟩) m cz] 28)) wm.heap.size (.slice (some ⟨b6, 0, none⟩) m cz) z) := HI.out.below hal
        have HC8 : Hid ((wr.alloc (.cells #[.slice (some ⟨b6, 0, none⟩) m cz] 28)).cell? ⟨wr.heap.size, 0, none⟩ = some (.slice (some ⟨b6, 0, none⟩) m cz)) := by
          show _ = _
          rw [cell_of_row _ wr.heap.size 0 _ _ _ (heap_alloc_new wr _)]; rfl
        have hl8 : P.length ≤ 100000 := by omega
        clear hal
        go_wp2_with (at_builtin; go_loud (refine wpList_append_ll rfl _ _ rfl w.heap.size wm.heap.size wr.heap.size b6 m cz z rfl rfl HO8.out HC8.out HE8.out HM.out hl8 hszw ?_))
        intro v9 w9 hown9 hgrow9
        obtain ⟨a9, n9, c9, h9⟩ := hown9.ls.isSlice
        subst h9
        have HO9 : Hid (OwnLL w9 w.heap.size w9.heap.size (.slice a9 n9 c9) (wol line)) := by rw [← HF.out]; exact hown9
        have HB9 := keptL (grown_ls HBW.out (Nat.le_trans hszw hsz) HOr.out.ls hgrow9)
        clear hown9 hgrow9
        go_wp2
        go_ret
        exact ⟨_, _, _, rfl, HO9.out, HB9.out⟩
set_option maxHeartbeats 2000000 in
theorem ll_WordsOfLines (w : World) (v : Value) (L : List (List Int)) (W : Int) (b : Bool) (hx : ListsAt w v L) (hb : Hid (b = true ↔ LinesOk L W)) :
    Calls Try.prog 19 #[v, .int .i64 W] w fun e w' => LlOut (wlR L b) w e w' := by
  have HX := keptL hx
  obtain ⟨a, cp, rfl, x1, x2, _⟩ := hx
  obtain ⟨n, hn⟩ : ∃ n, L.length = n := ⟨_, rfl⟩
  rw [hn] at x1 HX ⊢
  have HN := Lib.hid hn
  clear hn
  have hO0 := OwnLL.nil w w.heap.size
  cases b with
  | false =>
    go_enter Try.func19, Try.ntmps19
    go_wp2_with fail
    refine (i_areLines_b w _ L W false HX.out hb).mono ?_
    rintro e w1 ⟨rfl, rfl⟩
    clear hb
    go_wp2
    go_ret
    exact ⟨_, _, _, rfl, hO0, Below.refl _ _⟩
  | true =>
    have HOK : Hid (LinesOk L W) := hb.out.1 rfl
    have hn30 : n ≤ 30 := by have := HOK.out.1; rw [HN.out] at this; exact this
    go_enter Try.func19, Try.ntmps19
    go_wp2_with fail
    refine (i_areLines_b w _ L W true HX.out (show _ ↔ _ from ⟨fun _ => HOK.out, fun _ => rfl⟩)).mono ?_
    rintro e w1 ⟨rfl, rfl⟩
    clear hb
    go_wp2_with fail
    go_loopw [5, 14] (fun o i wr => ∃ (k : Nat) (P : List (List Int)), k ≤ n ∧ i = .int .i64 k ∧ OwnLL wr w.heap.size wr.heap.size o P ∧ Below w.heap.size w wr ∧ Hid (P = wolAll (L.take k))) (fun _ i _ => n - (intOf i).toNat)
    case atStart => exact ⟨0, [], Nat.zero_le _, rfl, hO0, Below.refl _ _, rfl⟩
    case round =>
      clear hO0
      obtain ⟨k, P, hk, rfl, hO, hB, HP⟩ := hrel
      obtain ⟨ao, no, co, hoo⟩ := hO.ls.isSlice
      subst hoo
      have hno : no = P.length := by
        obtain ⟨_, _, e, _⟩ := hO.ls.at
        injection e with _ e2 _
      have HNO := keptL hno
      have HO := keptL hO
      have HB := keptL hB
      have hsz := hB.size
      have hPl : P.length ≤ 40 * k := by have := wolAll_len HOK.out.len k (by rw [HN.out]; exact hk); rw [← HP.out] at this; exact this
      by_cases hlt : k < n
      · obtain ⟨g, off, u, rfl, c0, hu⟩ := HX.out.someNth hlt
        have c1 := (hB.cell (World.block_lt_of_cell? w _ c0)).trans c0
        have HU := keptL (hu.below hB)
        obtain ⟨zs, hzs⟩ : ∃ zs, L.getD k [] = zs := ⟨_, rfl⟩
        rw [hzs] at HU hu
        have hz40 : zs.length ≤ 40 := by rw [← hzs]; exact HOK.out.len k
        have hw40 := wol_len zs
        have HP' : Hid (P ++ wol zs = wolAll (L.take (k + 1))) := by
          show _ = _
          rw [wolAll_succ L (by rw [HN.out]; exact hlt), hzs, ← HP.out]
        obtain ⟨a3, c3, rfl, y1, y2, _⟩ := hu
        have b1 : (0 : Int) ≤ (k : Int) := by omega
        have b2 : (k : Int) < (n : Int) := by omega
        clear hzs hO hB hno c0 HP
        go_wp2_with fail
        refine (ll_wordsOfLine wr _ zs HU.out (by omega)).mono ?_
        rintro e w3 ⟨a6, n6, c6, rfl, hI, hb3⟩
        have HI := keptL hI
        have HO3 := keptL (HO.out.below hb3 (Nat.le_refl _))
        have HB3 := keptL (below_nextL HB.out hsz hb3)
        have hsz3 := HB3.out.size
        have hl3 : P.length + (wol zs).length ≤ 100000 := by omega
        clear hI hb3
        go_wp2_with (at_builtin; go_loud (refine wpList_append_lls rfl _ _ rfl w.heap.size wr.heap.size w3.heap.size rfl rfl HO3.out HI.out hl3 hsz ?_))
        intro v9 w9 hown9 hgrow9
        have HO9 : Hid (OwnLL w9 w.heap.size w9.heap.size v9 (P ++ wol zs)) := hown9
        have HB9 := keptL (HB3.out.grown hgrow9 hsz3 (fun x hx => (HO3.out.ls.row x hx).1))
        clear hown9 hgrow9
        go_wp2
        go_roundw
        case rel => exact ⟨k + 1, P ++ wol zs, by omega, by go_num, HO9.out, HB9.out, HP'⟩
        case measure => simp [intOf]; omega
      · obtain rfl : k = n := by omega
        have HA : Hid (P = wolAll L) := by
          show _ = _
          rw [HP.out, ← HN.out, List.take_length]
        clear hO hB hno HP
        by_cases hmany : no ≤ 30
        · have d1 : decide (30 < (no : Int)) = false := decide_eq_false (by omega)
          have HF : Hid (wlR L true = P) := by
            show _ = _
            rw [wlR_few (by rw [← HA.out, ← HNO.out]; exact hmany), HA.out]
          clear HA
          go_wp2
          go_ret
          exact ⟨_, _, _, rfl, by rw [HF.out]; exact HO.out, HB.out⟩
        · have d1 : decide (30 < (no : Int)) = true := decide_eq_true (by omega)
          have HF : Hid (wlR L true = []) := wlR_many (by rw [← HA.out, ← HNO.out]; exact hmany)
          clear HA
          go_wp2
          go_ret
          exact ⟨_, _, _, rfl, by rw [HF.out]; exact OwnLL.nil _ _, HB.out⟩
set_option maxHeartbeats 4000000 in
theorem exWordsOfLines_walk (a : Option Addr) (len cap : Nat) (L : List (List Int)) (W : Int) (w : World) (hx : ListsAt w (.slice a len cap) L) :
    Calls Try.prog 14 #[.slice a len cap, .int .i64 W] w fun e w' => e = .returned (.bool true) ∧ Below w.heap.size w w' := by
  have HX := Lib.hid hx
  obtain ⟨b, hb⟩ := boolOf (LinesOk L W)
  obtain ⟨R, hR⟩ : ∃ R, wlR L b = R := ⟨_, rfl⟩
  have HRS : Hid (ListsSmall R) := by rw [← hR]; exact wlR_small hb
  have HS : Hid (∀ wx v, ListsAt wx v L → Calls Try.prog 27 #[v, .int .i64 W] wx fun e w' => LsOut R wx e w') := fun wx v h => by rw [← hR]; exact s_WordsOfLines wx v L W b h hb
  have HI : Hid (∀ wx v, ListsAt wx v L → Calls Try.prog 19 #[v, .int .i64 W] wx fun e w' => LlOut R wx e w') := fun wx v h => by rw [← hR]; exact ll_WordsOfLines wx v L W b h hb
  clear hb hR
  obtain ⟨r, hr⟩ : ∃ r : Int, 1 + (sumM R R.length : Int) = r := ⟨_, rfl⟩
  have HRR := Lib.hid hr
  have hr0 : 0 ≤ r := by rw [← hr]; omega
  obtain ⟨rx, hrx⟩ : ∃ rx : Int, 1 + (sumM L L.length : Int) = rx := ⟨_, rfl⟩
  have HRX := Lib.hid hrx
  have hrx0 : 0 ≤ rx := by rw [← hrx]; omega
  have dx : decide (rx < 0) = false := decide_eq_false (by omega)
  have dr : decide (r < 0) = false := decide_eq_false (by omega)
  have er : (r != r) = false := by simp
  clear hx hr hrx
  go_enter Try.func14, Try.ntmps14
  go_wp2_with fail
  refine (szIntSS_any w _ L HX.out).mono ?_
  rintro e w1 ⟨l, rfl, hb1, hl⟩
  rcases hl with rfl | ⟨hl0, hl1, hsm⟩
  · go_wp2
    go_ret
    exact ⟨rfl, hb1⟩
  · have HSM := Lib.hid hsm
    have HB1 := keptM hb1
    have d1 : decide (l < 0) = false := decide_eq_false (by omega)
    clear hsm hb1
    go_wp2_with fail
    refine (toIntSS_any w1 _ L (HX.out.below HB1.out) HSM.out).mono ?_
    rintro e w2 ⟨u2, rfl, ht2, hb2⟩
    have HB2 := keptM (below_next HB1.out hb2)
    clear hb2
    go_wp2_with fail
    refine (HS.out w2 _ ht2).mono ?_
    rintro e w3 ⟨a3, n3, c3, rfl, hO3, hb3⟩
    have HB3 := keptM (below_next HB2.out hb3)
    have HO3 := keptM hO3
    clear hO3 hb3 ht2
    go_wp2_with fail
    refine (toIntSS_own w3 _ L (HX.out.below HB3.out) HSM).mono ?_
    rintro e w4 ⟨a4, n4, c4, rfl, hO4, hb4⟩
    have HB4 := keptM (below_next HB3.out hb4)
    have HO4 := keptM hO4
    have KB4 := keptM hb4
    have h34 := hb4.size
    clear hO4 hb4
    go_wp2_with fail
    refine (HI.out w4 _ HO4.out.ls.at).mono ?_
    rintro e w5 ⟨a5, n5, c5, rfl, hO5, hb5⟩
    have HB5 := keptM (below_next HB4.out hb5)
    have HO5 := keptM hO5
    have KB5 := keptM (below_next KB4.out hb5)
    have HO45 := keptM (HO4.out.below hb5 (Nat.le_refl _))
    have h45 := hb5.size
    clear hO5 hb5 KB4
    go_wp2_with fail
    refine (eqIntSS_same w5 _ _ R HO5.out.ls.at (HO3.out.at.below KB5.out)).mono ?_
    rintro e w6 ⟨rfl, hb6⟩
    have HB6 := keptM (below_next HB5.out hb6)
    have HO56 := keptM (HO5.out.below hb6 (Nat.le_refl _))
    have KB6 := keptM (below_next KB5.out hb6)
    have HO46 := keptM (HO45.out.below hb6 h45)
    have h56 := hb6.size
    clear hb6 KB5 HO45
    go_wp2_with fail
    refine (toIntSS_any w6 _ L (HX.out.below HB6.out) HSM.out).mono ?_
    rintro e w7 ⟨u7, rfl, ht7, hb7⟩
    have HB7 := keptM (below_next HB6.out hb7)
    have HO57 := keptM (HO56.out.below hb7 h56)
    have KB7 := keptM (below_next KB6.out hb7)
    have HO47 := keptM (HO46.out.below hb7 (Nat.le_trans h45 h56))
    have h67 := hb7.size
    clear hb7 HO56 KB6 HO46
    go_wp2_with fail
    refine (eqIntSS_same w7 _ _ L HO47.out.ls.at ht7).mono ?_
    rintro e w8 ⟨rfl, hb8⟩
    have HB8 := keptM (below_next HB7.out hb8)
    have HO58 := keptM (HO57.out.below hb8 (Nat.le_trans h56 h67))
    have KB8 := keptM (below_next KB7.out hb8)
    have HO48 := keptM (HO47.out.below hb8 (Nat.le_trans h45 (Nat.le_trans h56 h67)))
    have h78 := hb8.size
    clear hb8 HO57 KB7 HO47 ht7
    go_wp2_with fail
    refine (markIntSS_own w8 _ _ _ L HO48.out HSM rx HRX).mono ?_
    rintro e w9 ⟨rfl, hm9, _⟩
    have HB9 := keptM (hm9.below HB8.out (HB3.out.size) (HB8.out.size))
    have HO59 := keptM (HO58.out.blocks hm9.2.2.2.1 (fun k h1 h2 => hm9.2.2.2.2 k (by have := HO58.out.1; omega) (.inr h1)))
    have KB9 := keptM (hm9.below KB8.out (Nat.le_refl _) KB8.out.size)
    have h89 := hm9.2.2.2.1
    clear hm9 HO58 KB8 HO48
    go_wp2_with fail
    refine (eqIntSS_same w9 _ _ R HO59.out.ls.at (HO3.out.at.below KB9.out)).mono ?_
    rintro e w10 ⟨rfl, hb10⟩
    have HB10 := keptM (below_next HB9.out hb10)
    have HO510 := keptM (HO59.out.below hb10 (by omega))
    have KB10 := keptM (below_next KB9.out hb10)
    have h910 := hb10.size
    clear hb10 HO59 KB9
    go_wp2_with fail
    refine (markIntSS_own w10 _ _ _ R HO510.out HRS r HRR).mono ?_
    rintro e w11 ⟨rfl, hm11, M, hM, hO11⟩
    have HB11 := keptM (hm11.below HB10.out (HB4.out.size) (HB10.out.size))
    have HM := keptM hM
    have HO11 := keptM hO11
    have KB11 := keptM (hm11.below KB10.out h34 KB10.out.size)
    have h1011 := hm11.2.2.2.1
    clear hm11 hM hO11 HO510 KB10
    go_wp2_with fail
    refine (heldIntSS_own w11 _ R M HO11.out.ls.at HM HRS r HRR).mono ?_
    rintro e w12 ⟨rfl, rfl⟩
    go_wp2_with fail
    refine (toIntSS_any w11 _ L (HX.out.below HB11.out) HSM.out).mono ?_
    rintro e w12 ⟨u12, rfl, ht12, hb12⟩
    have HB12 := keptM (below_next HB11.out hb12)
    have HO12 := keptM (HO11.out.ls.below hb12)
    have KB12 := keptM (below_next KB11.out hb12)
    clear hb12 HO11 KB11
    go_wp2_with fail
    refine (HI.out w12 _ ht12).mono ?_
    rintro e w13 ⟨a13, n13, c13, rfl, hO13, hb13⟩
    have HB13 := keptM (below_next HB12.out hb13)
    have HO13 := keptM hO13
    have HOg13 := keptM (HO12.out.below hb13)
    have KB13 := keptM (below_next KB12.out hb13)
    clear hO13 hb13 HO12 KB12 ht12
    go_wp2_with fail
    refine (eqIntSS_same w13 _ _ R HO13.out.ls.at (HO3.out.at.below KB13.out)).mono ?_
    rintro e w14 ⟨rfl, hb14⟩
    have HB14 := keptM (below_next HB13.out hb14)
    have HOg14 := keptM (HOg13.out.below hb14)
    clear hb14 HOg13 KB13 HO13
    go_wp2_with fail
    refine (heldIntSS_own w14 _ R M HOg14.out.at HM HRS r HRR).mono ?_
    rintro e w15 ⟨rfl, rfl⟩
    go_wp2
    go_ret
    exact ⟨rfl, HB14.out⟩
end Go.Proofs.Ytnbppackijjohaa
