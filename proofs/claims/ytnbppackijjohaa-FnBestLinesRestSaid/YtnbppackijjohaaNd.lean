
/- The best lines: the program. -/
import Derived.Test.YtnbppackijjohaaNc
import Derived.Test.YtnbppackijjohaaMg
namespace Go.Proofs.Ytnbppackijjohaa
open Go.RowKit

theorem OwnLL.lower {w : World} {base base' top : Nat} {v : Value} {L : List (List Int)} (h : OwnLL w base top v L) (hb : base' ≤ base) : OwnLL w base' top v L := by
  obtain ⟨h0, hv, us, B, C, h1, h2, h3⟩ := h
  refine ⟨h0, hv, us, B, C, ?_, fun i hi => ⟨(h2 i hi).1, (h2 i hi).2.1.lowerM hb, (h2 i hi).2.2⟩, h3⟩
  rcases h1 with ⟨q0, ⟨hv, hn⟩ | ⟨g, cap, cur, hv, hgb, rest⟩⟩
  · exact ⟨q0, .inl ⟨hv, hn⟩⟩
  · exact ⟨q0, .inr ⟨g, cap, cur, hv, Nat.le_trans hb hgb, rest⟩⟩
def BestUp (W : Int) (A : Nat → Int) (L acc : List (List Int)) (k : Nat) : Prop := ∀ rest, BestFrom W A (L.drop k) rest → BestFrom W A L (acc ++ rest)
theorem BestUp.zero (W : Int) (A : Nat → Int) (L : List (List Int)) : BestUp W A L [] 0 := fun _ h => h
theorem BestUp.more {W : Int} {A : Nat → Int} {L acc : List (List Int)} {k c : Nat} (h : BestUp W A L acc k) (hf : PickAt W (L.drop k) A c) : BestUp W A L (acc ++ [pack ((L.drop k).take c)]) (k + c) := fun rest hr => by
  rw [List.append_assoc]
  refine h _ (.step hf ?_)
  rw [List.drop_drop]
  exact hr
theorem BestUp.all {W : Int} {A : Nat → Int} {L acc : List (List Int)} {k : Nat} (h : BestUp W A L acc k) (hk : L.length ≤ k) : BestFrom W A L acc := by
  have := h [] (by rw [List.drop_eq_nil_of_le hk]; exact .done)
  rwa [List.append_nil] at this
/-- the whole array is stored -/
theorem wpList_store_ends {ops : Array Oper} {rest : List Oper} {o : Oper} {a : Act} {w : World} {Q : Exit → Act → World → Prop} (hgd : o.guard = none) (x y : Operand) (ho : o.op = .store 45 x y)
    (g : Nat) (es : List Int) (hx : a.eval x = .pointer (some ⟨g, 0, none⟩)) (hy : a.eval y = .agg (ints es).toArray) (zs : List Int) (hA : ArrAt w g 45 zs) (hl : zs.length = 30) (hes : es.length = 30) (w1 : World) (hB : Below g w1 w)
    (h : ∀ w3, ArrAt w3 g 45 es → Below g w1 w3 → w3.heap.size = w.heap.size → wpList Try.prog ops Q rest (a.put o.dst undef) w3) : wpList Try.prog ops Q (o :: rest) a w := by
  have hca : (ints es).toArray.all (·.oneCell') = true := by
    rw [Array.all_eq_true_iff_forall_mem]
    intro x hx
    exact ints_oneCellC es x (by simpa using hx)
  refine wpList_store_row hgd 45 x y ho g (ints es).toArray hx hy 45 (ints zs).toArray hA (by rw [size44]; simp [ints, hes]) (by simp [ints, hes, hl]) hca ?_
  exact h _ (setRow_heap w g _ _ _ _ hA) (below_setRow hB (Nat.le_refl _) _) (by unfold World.setRow; simp)
set_option maxRecDepth 20000 in
set_option maxHeartbeats 2000000 in
theorem ll_BestLines (w : World) (v : Value) (L : List (List Int)) (W : Int) (b : Bool) (hx : ListsAt w v L) (hb : Hid (b = true ↔ FillOk L W)) :
    Calls Try.prog 20 #[v, .int .i64 W] w fun e w' => ∃ R, BestRes L W b R ∧ LlOut R w e w' := by
  have HX := keptL hx
  obtain ⟨a, cp, rfl, x1, x2, _⟩ := hx
  obtain ⟨n, hn⟩ : ∃ n, L.length = n := ⟨_, rfl⟩
  rw [hn] at x1 HX ⊢
  have HN := Lib.hid hn
  clear hn
  cases b with
  | false =>
    have hO0 := OwnLL.nil w w.heap.size
    go_enter Try.func20, Try.ntmps20
    go_wp2_with fail
    refine (i_canFill_b w _ L W false HX.out hb).mono ?_
    rintro e w1 ⟨rfl, rfl⟩
    clear hb
    go_wp2
    go_ret
    exact ⟨[], rfl, _, _, _, rfl, hO0, Below.refl _ _⟩
  | true =>
    have HOK : Hid (FillOk L W) := hb.out.1 rfl
    have hn30 : n ≤ 30 := by have := HOK.out.1; rw [HN.out] at this; exact this
    go_enter Try.func20, Try.ntmps20
    go_wp2_with fail
    refine (i_canFill_b w _ L W true HX.out (show _ ↔ _ from ⟨fun _ => HOK.out, fun _ => rfl⟩)).mono ?_
    rintro e w1 ⟨rfl, rfl⟩
    clear hb
    go_wp2_with fail
    refine (i_bestEnds w _ L W HX.out HOK).mono ?_
    rintro e w1 ⟨es, A, rfl, hes, hC, hE, hb1⟩
    have HC := keptL hC
    have HE := keptL hE
    have HB1 := keptL hb1
    have hs1 := hb1.size
    have hA2 : ArrAt (w1.alloc (.cells (ints (noughts 30)).toArray 45)) w1.heap.size 45 (noughts 30) := heap_alloc_new w1 _
    have hB2 : Below w1.heap.size w1 (w1.alloc (.cells (ints (noughts 30)).toArray 45)) := (Below.refl _ _).alloc (Nat.le_refl _) _
    have HA2 := keptL hA2
    have HB2 := keptL hB2
    clear hC hE hb1 hA2 hB2
    go_wp2_with (refine wpList_store_ends rfl _ _ rfl w1.heap.size es rfl rfl (noughts 30) HA2.out rfl hes w1 HB2.out ?_)
    intro w3 hA3 hB3 hs3
    have HA3 := keptL hA3
    have HB3 := keptL (below_next HB1.out hB3)
    have hO0 := OwnLL.nil w3 w3.heap.size
    have hw3 : w.heap.size ≤ w3.heap.size := HB3.out.size
    have HS3 := keptL hs3
    clear hA3 hB3 hs3 HA2 HB2
    go_wp2
    go_loopw [6, 7] (fun o i wr => ∃ (k : Nat) (acc : List (List Int)), k ≤ n ∧ i = .int .i64 k ∧ Hid (OwnLL wr w3.heap.size wr.heap.size o acc) ∧ Hid (Below w3.heap.size w3 wr) ∧ acc.length ≤ k ∧ Hid (BestUp W A L acc k)) (fun _ i _ => n - (intOf i).toNat)
    case atStart => exact ⟨0, [], Nat.zero_le _, by go_num, hO0, Below.refl _ _, by simp, BestUp.zero _ _ _⟩
    case round =>
      clear hO0
      obtain ⟨k, acc, hk, rfl, HO, HB, hacc, HU⟩ := hrel
      obtain ⟨ao, no, co, hoo⟩ := HO.out.ls.isSlice
      subst hoo
      have hsz := HB.out.size
      have HBW := keptL (below_nextL HB3.out hw3 HB.out)
      by_cases hlt : k < n
      · have HXr : Hid (ListsAt wr (.slice a n cp) L) := HX.out.below HBW.out
        obtain ⟨g, off, u, rfl, hc1, hc2⟩ := HX.out.someNth hlt
        obtain ⟨c, hce, hpk⟩ := HE.out k (Nat.zero_le _) (by rw [HN.out]; exact hlt)
        have hpos := hpk.pos
        rw [List.length_drop, HN.out] at hpos
        have ce := (HA3.out.below HB.out (by have := HS3.out; omega)).cell (k := k) (by omega)
        rw [hce] at ce
        have hc2 : k + c ≤ n := by omega
        have HUP : Hid (BestUp W A L (acc ++ [pack ((L.drop k).take c)]) (k + c)) := HU.out.more hpk
        have HS : Hid (ListsAt wr (.slice (some ⟨g, off + k, none⟩) c (cp - k)) ((L.drop k).take c)) := (HXr.out.dropL k (by omega)).take c (by omega)
        have hl : ((L.drop k).take c).length = c := by rw [List.length_take, List.length_drop, HN.out]; omega
        have b1 : (0 : Int) ≤ (k : Int) := by omega
        have b2 : (k : Int) < 30 := by omega
        clear hpk hce hc1
        go_wp2_with fail
        refine (i_lineOf wr _ _ HS.out (by omega) ((HOK.out.len.drop _).take _) ((HOK.out.min.drop _).take _)).mono ?_
        rintro e w4 ⟨a6, n6, c6, rfl, hI, hb4⟩
        have HO3 := keptL (HO.out.below hb4 (Nat.le_refl _))
        have HB4 := keptL (below_nextL HB.out hsz hb4)
        obtain ⟨b6, c6', hv6, _⟩ := hI.shape (pack_pos (M := (L.drop k).take c) (by omega) ((HOK.out.min.drop _).take _))
        injection hv6 with hv1 hv2 hv3
        subst hv1 hv2
        have HI3 := keptL hI
        have hsz3 := HB4.out.size
        have hs3 := hb4.size
        obtain ⟨n6, hn6⟩ : ∃ n6, (pack ((L.drop k).take c)).length = n6 := ⟨_, rfl⟩
        have HN6 := Lib.hid hn6
        rw [hn6] at HI3 ⊢
        clear hI hb4 hn6 hv3
        have hal : Below w4.heap.size w4 (w4.alloc (.cells #[.slice (some ⟨b6, 0, none⟩) n6 c6] 28)) := (Below.refl _ _).alloc (Nat.le_refl _) _
        have HO8 := keptL (HO3.out.below hal hs3)
        have HE8 := keptL (HI3.out.below hal)
        have HC8 : Hid ((w4.alloc (.cells #[.slice (some ⟨b6, 0, none⟩) n6 c6] 28)).cell? ⟨w4.heap.size, 0, none⟩ = some (.slice (some ⟨b6, 0, none⟩) n6 c6)) := by
          show _ = _
          rw [cell_of_row _ w4.heap.size 0 _ _ _ (heap_alloc_new w4 _)]; rfl
        have hl8 : acc.length ≤ 100000 := by omega
        clear hal
        go_wp2_with (at_builtin; go_loud (refine wpList_append_ll rfl _ _ rfl w3.heap.size wr.heap.size w4.heap.size b6 n6 c6 (pack ((L.drop k).take c)) rfl rfl HO8.out HC8.out HE8.out HN6.out hl8 hsz ?_))
        intro v9 w9 hown9 hgrow9
        have HO9 := keptL hown9
        have HB9 := keptL (grown_ls HB4.out hsz3 HO3.out.ls hgrow9)
        have c9 := (HA3.out.below HB9.out (by have := HS3.out; omega)).cell (k := k) (by omega)
        have ce9 : w9.cell? ⟨w1.heap.size, k, none⟩ = some (.int .i64 ((k + c : Nat) : Int)) := by
          obtain ⟨c', hce', hpk'⟩ := HE.out k (Nat.zero_le _) (by rw [HN.out]; exact hlt)
          rw [c9]
          have h8 := (HA3.out.below HB.out (by have := HS3.out; omega)).cell (k := k) (by omega)
          rw [ce] at h8
          injection h8 with h8
          rw [← h8]
        clear hown9 hgrow9 c9
        go_wp2
        go_roundw
        case rel => exact ⟨k + c, acc ++ [pack ((L.drop k).take c)], hc2, by go_num, HO9, HB9, by simp; omega, HUP⟩
        case measure => simp [intOf]; omega
      · obtain rfl : k = n := by omega
        have HF : Hid (BestFrom W A L acc) := HU.out.all (by rw [HN.out]; omega)
        have HOF := keptL (HO.out.lower hw3)
        clear HU
        go_wp2
        go_ret
        exact ⟨acc, ⟨A, HC.out, HF.out⟩, _, _, _, rfl, HOF.out, HBW.out⟩
end Go.Proofs.Ytnbppackijjohaa
