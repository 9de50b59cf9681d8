
/- ParseCells in the model: the whole. -/
import Derived.Test.YtbngkgfjhegkmaaParS
namespace Go.Proofs.Ytbngkgfjhegkmaa
open Go.RowKit

/-- what is left to read of the parts from k on -/
def RP (q : List (List UInt8)) (k : Nat) (zs : List Int) : Prop := readParts q = (readParts (q.drop k)).map (fun r => zs ++ r)
theorem RP.start (q : List (List UInt8)) : RP q 0 [] := by simp [RP]
theorem drop_getD {q : List (List UInt8)} {k : Nat} (h : k < q.length) : q.drop k = q.getD k [] :: q.drop (k + 1) := by
  rw [List.drop_eq_getElem_cons h, List.getD_eq_getElem?_getD, List.getElem?_eq_getElem h, Option.getD_some]
theorem RP.bad {q : List (List UInt8)} {k : Nat} {zs : List Int} (h : RP q k zs) (hk : k < q.length) (hc : pc (q.getD k []) < 0) : readParts q = none := by
  unfold RP at h
  rw [h, drop_getD hk, readParts, if_pos hc]; rfl
theorem RP.good {q : List (List UInt8)} {k : Nat} {zs : List Int} {c : Int} (h : RP q k zs) (hk : k < q.length) (hc : pc (q.getD k []) = c) (h0 : 0 ≤ c) : RP q (k + 1) (zs ++ [c]) := by
  unfold RP at h ⊢
  rw [h, drop_getD hk, readParts, hc, if_neg (show ¬ c < 0 from by omega)]
  simp [Function.comp_def]
theorem RP.done {q : List (List UInt8)} {k : Nat} {zs : List Int} (h : RP q k zs) (hk : q.length ≤ k) : readParts q = some zs := by
  unfold RP at h
  rw [h, List.drop_of_length_le hk]; simp [readParts]
theorem OwnStrs.cell {w : World} {base n c : Nat} {a : Option Addr} {ps : List ByteArray} (h : OwnStrs w base (.slice a n c) ps) (hn : ps.length = n) {k : Nat} (hk : k < n) :
    ∃ g, a = some ⟨g, 0, none⟩ ∧ w.cell? ⟨g, k, none⟩ = some (.string (ps.getD k ByteArray.empty)) := by
  subst hn
  rcases h.2 with ⟨_, hn⟩ | ⟨g, cap, cur, hv, hb, _⟩
  · omega
  · injection hv with h1 h2 h3
    subst h1 h3
    refine ⟨g, rfl, ?_⟩
    have := h.cellAt k (by omega)
    rw [this]
    simp [hk]
theorem lists_getD {ps : List ByteArray} {k : Nat} (h : k < ps.length) : (lists ps).getD k [] = (ps.getD k ByteArray.empty).data.toList := by
  simp [lists, List.getD_eq_getElem?_getD, h]

theorem OwnStrs.apart {w : World} {B B' : Nat} {u v : Value} {ps : List ByteArray} {zs : List Int} (h : OwnStrs w B u ps) (k : OwnInts w B' v zs) : u.ownBlock = none ∨ u.ownBlock ≠ v.ownBlock := by
  rcases h.2 with ⟨rfl, _⟩ | ⟨g, cap, cur, rfl, _, hg, _⟩
  · exact .inl rfl
  · right
    intro e
    rcases k.2 with ⟨rfl, _⟩ | ⟨g2, cap2, cur2, rfl, _, hg2, _⟩
    · cases e
    · injection e with e
      simp at e
      subst e
      rw [hg] at hg2
      injection hg2 with hg2
      injection hg2 with _ h2
      exact absurd h2 (by decide)
theorem OwnStrs.below {w w' : World} {base : Nat} {v : Value} {l : List ByteArray} (h : OwnStrs w base v l) (hb : Below w.heap.size w w') : OwnStrs w' base v l :=
  h.kept (row := none) ⟨hb.os, hb.tape, hb.output, hb.size, fun k hk _ => hb.block k hk⟩ (by cases hv : v.ownBlock <;> simp)

set_option maxHeartbeats 2000000 in
theorem s_ParseCells (s : ByteArray) (w : World) (hs : s.size ≤ 1048576) :
    Calls Try.prog 14 #[.string s] w fun e w' => ParseOut s.data.toList w e w' := by
  obtain ⟨i0, hi, hz0, hz1, hz2⟩ := info_parts infoInt
  have HQ : s.toList = s.data.toList := toList_data s
  have HSP := Lib.hid (fun w => s_splitAt s w hs)
  obtain ⟨l, hL⟩ : ∃ l, s.data.toList = l := ⟨_, rfl⟩
  have HW : Hid (∀ w, Calls Try.prog 30 #[.string s, .int .u8 45] w fun e w' => WordsOut l w e w') := by rw [← hL]; exact HSP
  rw [hL] at HQ ⊢
  clear hL HSP
  by_cases hB : l = []
  · have e2 : s.toList.isEmpty = true := by rw [HQ, hB]; rfl
    have HP : Hid (parseL l = some []) := by rw [hB]; rfl
    clear hB HQ
    go_enter Try.func14, Try.ntmps14
    go_wp2
    go_ret2
    exact ⟨_, _, rfl, (Below.refl _ _).alloc (Nat.le_refl _) _, ⟨_, _, _, rfl⟩, .inl ⟨[], HP.out, rfl, OwnInts.made _ _ (Nat.le_refl _), by simp⟩⟩
  · have e2 : s.toList.isEmpty = false := by rw [HQ]; simpa using hB
    have HNE := Lib.hid hB
    clear hB HQ
    go_enter Try.func14, Try.ntmps14
    go_wp2_with fail
    refine (HW.out _).mono ?_
    rintro e w1 ⟨a1, n, c1, ps, rfl, hos', hn, hps, hb1⟩
    have hos : OwnStrs w1 (w.heap.size + 1) (.slice a1 n c1) ps := by simpa using hos'
    clear hos'
    have hb01 : Below w.heap.size w w1 := ((Below.refl _ _).alloc (Nat.le_refl _) _).trans (hb1.mono (by simp))
    have ho0 : OwnInts w1 w.heap.size (.slice (some ⟨w.heap.size, 0, none⟩) 0 0) [] := (OwnInts.made w w.heap.size (Nat.le_refl _)).below hb1
    clear HW
    by_cases hbig : n ≤ 200
    · have HF : Hid (parseL l = readParts (lists ps)) := by
        show _ = _
        rw [parseL, if_neg HNE.out, ← hps.out, if_pos (by simp [lists]; have := hn.out; omega)]
      have hq : Hid ((lists ps).length = n) := by show _ = _; rw [← hn.out]; simp [lists]
      go_wp2_with fail
      go_loopw [4, 6] (fun v i wr => ∃ (k : Nat) (zs : List Int), k ≤ n ∧ i = .int .i64 k ∧ OwnInts wr w.heap.size v zs ∧ Hid (zs.length = k) ∧ RP (lists ps) k zs ∧ OwnStrs wr (w.heap.size + 1) (.slice a1 n c1) ps ∧ Below w.heap.size w wr) (fun _ i _ => n - (intOf i).toNat)
      case atStart => exact ⟨0, [], Nat.zero_le _, rfl, ho0, rfl, RP.start _, hos, hb01⟩
      case round =>
        clear ho0 hb01
        clear hos
        obtain ⟨k, zs, hk, rfl, hown, hzl, hrp, hos, hb⟩ := hrel
        have hsw := hb.size
        by_cases hlt : k < n
        · obtain ⟨g, hg, hcell⟩ := hos.cell hn.out hlt
          subst hg
          obtain ⟨p, hp⟩ : ∃ p, ps.getD k ByteArray.empty = p := ⟨_, rfl⟩
          rw [hp] at hcell
          obtain ⟨c, hc⟩ : ∃ c, pc p.data.toList = c := ⟨_, rfl⟩
          have hbd := pc_bd p.data.toList
          rw [hc] at hbd
          obtain ⟨hbd1, hbd2⟩ := hbd
          have HCC : Hid (pc ((lists ps).getD k []) = c) := by show _ = _; rw [lists_getD (by have := hn.out; omega), hp, hc]
          have HPC := Lib.hid hc
          clear hp hc
          by_cases hc0 : c < 0
          · have HN : Hid (parseL l = none) := by show _ = _; rw [HF.out]; exact hrp.bad (by have := hq.out; omega) (by rw [HCC.out]; exact hc0)
            go_wp2_with (go_at_call 31; refine (s_readDots_v _ c _ HPC).mono ?_; rintro e w2 ⟨rfl, hb2⟩)
            go_ret2
            exact ⟨_, _, rfl, hb.trans (hb2.mono hsw), ⟨_, _, _, rfl⟩, .inr ⟨HN.out, rfl, rfl⟩⟩
          · have hc1 : 0 ≤ c := by omega
            have HG : Hid (RP (lists ps) (k + 1) (zs ++ [c])) := hrp.good (by have := hq.out; omega) HCC.out hc1
            clear hc0 hrp
            go_wp2_with fail
            refine (s_readDots_v _ c _ HPC).mono ?_
            rintro e w2 ⟨rfl, hb2⟩
            have hown2 := hown.below hb2
            have hB2 := hb.trans (hb2.mono hsw)
            have hos2 := hos.below hb2
            have hap := hos2.apart hown2
            have hsz2 := hB2.size
            have hzl2 : zs.length ≤ 200 := by have := hzl.out; omega
            have HAP := Lib.hid hap
            clear hown hb hb2 hos hap
            go_wp2_with (at_builtin; go_loud (refine wpList_append_own _ rfl _ _ 23 rfl w.heap.size 3 i0 (.int .i64 0) 1 8 Try.underlying23 hi hz0 hz1 hz2 rfl (by decide) _ _ _ rfl (hown2.alloc _) ⟨w2.heap.size, 0, none⟩ 1 1 [.int .i64 c] rfl rfl new_one one_cell (by unfold maxLen; omega) (by omega) (by simp; omega) ?_))
            intro v' w3 hown' hgrow _
            have R1 : OwnInts w3 w.heap.size v' (zs ++ [c]) := OwnInts.snoc hown'
            have R2 := below_append hB2 hsz2 hown2 hgrow
            have R3 : OwnStrs w3 (w.heap.size + 1) (.slice (some ⟨g, 0, none⟩) n c1) ps := (hos2.alloc _).kept hgrow HAP.out
            have HZ : Hid ((zs ++ [c]).length = k + 1) := by show _ = _; rw [List.length_append, hzl.out]; rfl
            clear hown' hgrow hown2 hB2 hos2
            go_wp2
            go_roundw
            case rel => exact ⟨k + 1, zs ++ [c], by omega, by go_num, R1, HZ, HG.out, R3, R2⟩
            case measure => simp [intOf]; omega
        · have HD : Hid (parseL l = some zs) := by show _ = _; rw [HF.out]; exact hrp.done (by have := hq.out; omega)
          obtain ⟨_, _, _, hv⟩ := (show ∃ a n c, _ = Value.slice a n c from (by rcases hown.2 with ⟨h, _⟩ | ⟨g, cap, _, h, _⟩ <;> exact ⟨_, _, _, h⟩))
          rw [hv] at hown
          subst hv
          go_wp2
          go_ret2
          exact ⟨_, _, rfl, hb, ⟨_, _, _, rfl⟩, .inl ⟨zs, HD.out, rfl, hown, by have := hzl.out; omega⟩⟩
    · have hbig' : 200 < n := by omega
      have HN : Hid (parseL l = none) := by
        show _ = _
        rw [parseL, if_neg HNE.out, ← hps.out, if_neg (by simp [lists]; have := hn.out; omega)]
      go_wp2
      go_ret2
      exact ⟨_, _, rfl, hb01, ⟨_, _, _, rfl⟩, .inr ⟨HN.out, rfl, rfl⟩⟩
end Go.Proofs.Ytbngkgfjhegkmaa
