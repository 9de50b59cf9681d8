
/- The draw of pieces. -/
import Derived.Test.YtohgglhjcklbaaaVr
import Derived.Test.YtohgglhjcklbaaaVw
import Derived.Test.YtohgglhjcklbaaaTbJ
namespace Go.Proofs.Ytohgglhjcklbaaa
open Go.RowKit

/-- small numbers in a piece -/
def PcLow (p : PPiece) : Prop := -2 ≤ p.r ∧ p.r ≤ 20 ∧ 0 ≤ p.f ∧ p.f ≤ 100 ∧ 0 ≤ p.t ∧ p.t ≤ 101
def PcMid (p : PPiece) : Prop := -2 ≤ p.r ∧ p.r ≤ 20 ∧ 0 ≤ p.f ∧ p.f ≤ 100 ∧ 0 ≤ p.t ∧ p.t ≤ 102
theorem PcLow.mid {p : PPiece} (h : PcLow p) : PcMid p := ⟨h.1, h.2.1, h.2.2.1, h.2.2.2.1, h.2.2.2.2.1, by have := h.2.2.2.2.2; omega⟩
def PcDrawn (w : World) (B R L p : Nat) (e : Ending) (w' : World) : Prop :=
  ∃ v P q, e = .returned v ∧ PiecesAt w' v P ∧ Hid (∀ x ∈ P, PcMid x) ∧ P.length ≤ 40 ∧ RD w' B R L q ∧ q ≤ p + 100 ∧ w.grownBy w' (some R)
theorem s_validWord_b (s : ByteArray) (b : Bool) (w : World) (hs : s.size ≤ 9223372036854775807) (hb : Hid (decide (WordB 16 s.data.toList) = b)) :
    Calls Try.prog 62 #[.string s] w fun e w' => e = .returned (.bool b) ∧ w = w' := by
  have := s_validWord s w hs
  rw [hb.out] at this
  exact this
set_option maxRecDepth 20000 in
set_option maxHeartbeats 8000000 in
theorem anyPieces_any (w : World) (B R L p g n c : Nat) (T : List PRule) (s : ByteArray) (h : RD w B R L p) (hp : p ≤ 10000000) (hx : TableAt w (.slice (some ⟨g, 0, none⟩) n c) T) (S : Nat) (Q : List (PRule × Value)) (hT : TabOwn w S (.slice (some ⟨g, 0, none⟩) n c) Q) (hRS : R < S) (hTQ : Hid (tabOf Q = T)) (hn : T.length = n) (hf : TableFits T) (hs : s.size ≤ 17) :
    Calls Try.prog 72 #[.pointer (some ⟨R, 0, none⟩), .slice (some ⟨g, 0, none⟩) n c, .string s] w fun e w' => PcDrawn w B R L p e w' := by
  have hR := h.lt
  have HN := Lib.hid hn
  obtain ⟨b, HB⟩ : ∃ b : Bool, Hid (b = true ↔ ValidTb T) := by
    by_cases hv : ValidTb T
    · exact ⟨true, show _ ↔ _ from ⟨fun _ => hv, fun _ => rfl⟩⟩
    · exact ⟨false, show _ ↔ _ from ⟨fun e => by simp at e, fun e => absurd e hv⟩⟩
  obtain ⟨bw, hbw⟩ : ∃ bw, decide (WordB 16 s.data.toList) = bw := ⟨_, rfl⟩
  have HBW := Lib.hid hbw
  have hx1 := hx.below (Below.alloc (Below.refl _ _) (Nat.le_refl _) (.cells #[] 59))
  have hB1 : Below w.heap.size w (w.alloc (.cells #[] 59)) := (Below.refl _ _).alloc (Nat.le_refl _) _
  have hO1 := OwnPc.made w w.heap.size (Nat.le_refl _)
  have HT := keptH hT
  clear hbw hx hn hT
  go_enter Try.func72, Try.ntmps72
  go_wp2_with fail
  refine (s_validTable _ _ T b hx1 hf HB).mono ?_
  rintro e w2 ⟨rfl, hb2⟩
  have hB2 := below_next hB1 hb2
  have hO2 := hO1.below hb2
  clear hx1 hB1 hO1 hb2
  cases b with
  | false =>
    have hG2 := grownB hB2
    have FIN := keptH (And.intro hO2.at (And.intro (h.grown hG2) hG2))
    clear hO2 hB2 hG2 h
    go_wp2
    go_ret
    exact ⟨_, [], p, rfl, FIN.out.1, fun x hx => absurd hx (by simp), by simp, FIN.out.2.1, by omega, grown_none FIN.out.2.2 _⟩
  | true =>
    have HV : Hid (ValidTb T) := HB.out.1 rfl
    clear HB
    go_wp2_with fail
    refine (s_validWord_b s bw w2 (by omega) HBW).mono ?_
    rintro e w' ⟨rfl, rfl⟩
    cases bw with
    | false =>
      have hG2 := grownB hB2
      have FIN := keptH (And.intro hO2.at (And.intro (h.grown hG2) hG2))
      clear hO2 hB2 hG2 h
      go_wp2
      go_ret
      exact ⟨_, [], p, rfl, FIN.out.1, fun x hx => absurd hx (by simp), by simp, FIN.out.2.1, by omega, grown_none FIN.out.2.2 _⟩
    | true =>
      have hw : WordB 16 s.data.toList := of_decide_eq_true HBW.out
      have hs1 : 1 ≤ s.size ∧ s.size ≤ 16 := by have := hw.1; have := hw.2.1; have := wd_size s; omega
      clear hw HBW
      have hG2 := grownB hB2
      have hs2 := hB2.size
      have START := keptH (And.intro hO2 (And.intro (h.grown hG2) hG2))
      clear hO2 hB2 hG2 h
      go_wp2_with fail
      go_loopw [7, 8] (fun o i wr => ∃ (at_ q : Nat) (P : List PPiece), at_ ≤ 22 ∧ i = .int .i64 at_ ∧ OwnPc wr w.heap.size o P ∧ P.length ≤ at_ ∧ (1 ≤ at_ → 1 ≤ P.length) ∧ Hid (∀ x ∈ P, PcLow x) ∧ RD wr B R L q ∧ q ≤ p + at_ ∧ w.grownBy wr (some R)) (fun _ i _ => 100 - (intOf i).toNat)
      case atStart => exact ⟨0, p, [], by omega, rfl, START.out.1, by simp, fun h => by omega, fun x hx => absurd hx (by simp), START.out.2.1, by omega, grown_none START.out.2.2 _⟩
      case round =>
        obtain ⟨k, q, P, hk, rfl, hO, hPl, hP1, hPc, hrd, hq, hG⟩ := hrel
        by_cases hlt : k < s.size
        · have hxr : TableAt wr (.slice (some ⟨g, 0, none⟩) n c) T := by
            have := (HT.out.overR hG hRS).at
            rw [hTQ.out] at this
            exact this
          have hRr := hrd.lt
          go_wp2_with fail
          refine (choices_any wr g n c T s k hxr HN.out HV (by omega)).mono ?_
          rintro e w3 ⟨v3, P3, rfl, hO3, hl1, hl2, hP3, hb3⟩
          obtain ⟨g3, c3, hv3⟩ := hO3.2
          obtain ⟨n3, hn3⟩ : ∃ n3, P3.length = n3 := ⟨_, rfl⟩
          rw [hn3] at hv3 hl1 hl2
          have HN3 := Lib.hid hn3
          clear hn3
          subst hv3
          have hrd3 := hrd.grown (grownB hb3)
          have hO4 := hO.below hb3
          have hG3 := grown_trans hG (grown_none (grownB hb3) (some R))
          clear hxr hb3 hrd hO hG
          go_wp2_with fail
          refine (pick_any w3 B R L q _ hrd3 (by omega) (by omega) (by omega)).mono ?_
          rintro e w4 ⟨i, rfl, hi, hrd4, hgr4⟩
          have hO5 := hO3.overR hgr4 hRr
          have hin : i < n3 := by omega
          obtain ⟨f0, f1, f2⟩ := pcells_at P3 i (by rw [HN3.out]; exact hin)
          have hcl := hO5.1
          rw [HN3.out] at hcl
          have e0 := (hcl.cellAt (i * 3) (by omega)).trans f0
          have e1 := (hcl.cellAt (i * 3 + 1) (by omega)).trans f1
          have e2 := (hcl.cellAt (i * 3 + 2) (by omega)).trans f2
          have hpx : PcOf k (P3.getD i noP) := hP3.out _ (by rw [List.getD_eq_getElem?_getD, List.getElem?_eq_getElem (by rw [HN3.out]; exact hin), Option.getD_some]; exact List.getElem_mem _)
          clear f0 f1 f2 hcl
          generalize P3.getD i noP = x at e0 e1 e2 hpx
          obtain ⟨r, f, t⟩ := x
          obtain ⟨x0, x1, x2, x3, x4⟩ := hpx
          simp only at e0 e1 e2 x0 x1 x2 x3 x4
          subst x2
          have hO6 := hO4.overR hgr4 (by omega)
          have hG4 := grown_trans hG3 hgr4
          have HO6 := keptH hO6
          have HG4 := keptH hG4
          have HRD4 := keptH hrd4
          clear hO3 hO5 hP3 hO4 hG3 hrd3 hgr4 hO6 hG4 hrd4 hP1
          obtain ⟨t', rfl⟩ : ∃ t' : Nat, t = t' := ⟨t.toNat, by omega⟩
          have b1 : (0 : Int) ≤ (i : Int) := by omega
          have b2 : (i : Int) < (n3 : Int) := by omega
          have hal1 := Below.alloc (Below.refl w4.heap.size w4) (Nat.le_refl _) (.cells #[.int .i64 r, .int .i64 (k : Int), .int .i64 (t' : Int)] 59)
          have hO7 := HO6.out.below hal1
          have hO8 := hO7.below (Below.alloc (Below.refl _ _) (Nat.le_refl _) (.cells #[.int .i64 r, .int .i64 (k : Int), .int .i64 (t' : Int)] 59))
          have hA8 := pieceAt_alloc (w4.alloc (.cells #[.int .i64 r, .int .i64 (k : Int), .int .i64 (t' : Int)] 59)) ⟨r, (k : Int), (t' : Int)⟩
          rw [World.size_alloc] at hA8
          have hblk : Hid (((w4.alloc (.cells #[.int .i64 r, .int .i64 (k : Int), .int .i64 (t' : Int)] 59)).alloc (.cells #[.int .i64 r, .int .i64 (k : Int), .int .i64 (t' : Int)] 59)).heap[w4.heap.size]? = some (.cells #[.int .i64 r, .int .i64 (k : Int), .int .i64 (t' : Int)] 59 (0, 0))) := by
            show _ = _
            rw [Below.heap_alloc _ _ _ (by rw [World.size_alloc]; omega)]
            exact heap_alloc_new w4 _
          have hsz4 := HG4.out.size
          have HO8 := keptH hO8
          have HA8 := keptH hA8
          clear hal1 hO7 hO8 hA8
          go_wp2_with (at_builtin; go_loud (refine wpList_append_piece rfl _ _ rfl w.heap.size (w4.heap.size + 1) ⟨r, (k : Int), (t' : Int)⟩ rfl rfl HO8.out HA8.out (by omega) (by simp; omega) ?_))
          intro v5 w5 hO9 hg9
          have hG9 : w.grownBy w5 (some R) := grown_own (grown_own (grown_own HG4.out (World.grownBy_alloc w4 _ none) (by simp)) (World.grownBy_alloc _ _ none) (by simp)) hg9 (fun q hq => (HO8.out.1.lt q hq).1)
          have hrd9 : RD w5 B R L (q + 1) := ((HRD4.out.alloc _).alloc _).over (S := w.heap.size) hg9 (fun q hq => (HO8.out.1.lt q hq).1) hR
          have e9 : w5.cell? ⟨w4.heap.size, 2, none⟩ = some (.int .i64 (t' : Int)) := by
            rw [cell_of_row w5 w4.heap.size 2 _ _ _ ((hg9.block w4.heap.size (by simp; omega) (fun e => by have := (HO6.out.1.lt _ e.symm).2; omega)).trans hblk.out)]
            rfl
          have HP9 : Hid (∀ x ∈ P ++ [⟨r, (k : Int), (t' : Int)⟩], PcLow x) := by
            intro x hx
            rcases List.mem_append.1 hx with hx | hx
            · exact hPc.out x hx
            · simp at hx
              subst hx
              exact ⟨by simp only; omega, by simp only; omega, by simp only; omega, by simp only; omega, by simp only; omega, by simp only; omega⟩
          have NXT := keptH (And.intro hO9 (And.intro hrd9 hG9))
          clear hO9 hrd9 hG9 hg9 hblk HO8 HA8 e0 e1 e2
          go_wp2
          go_roundw
          case rel => exact ⟨t', q + 1, _, by omega, rfl, NXT.out.1, by simp; omega, by simp, HP9, NXT.out.2.1, by omega, NXT.out.2.2⟩
          case measure => simp [intOf]; omega
        · have HP1 := keptH (hP1 (by omega))
          have HOO := keptH hO
          have HGG := keptH hG
          have hRr := hrd.lt
          have hsr := hG.size
          obtain ⟨gp, cp, hvp⟩ := hO.2
          obtain ⟨m, hm⟩ : ∃ m, P.length = m := ⟨_, rfl⟩
          rw [hm] at hvp hPl
          have HM := Lib.hid hm
          have hm1 : 1 ≤ m := by have := HP1.out; omega
          subst hvp
          clear hm hP1 hO hG HP1
          go_wp2_with fail
          refine (pick_any wr B R L q _ hrd (by omega) (by omega) (by omega)).mono ?_
          rintro e w5 ⟨d8, rfl, hd8, hrd5, hgr5⟩
          have hO5 := HOO.out.overR hgr5 hR
          have hG5 := grown_trans HGG.out hgr5
          clear hgr5 hrd HOO HGG
          by_cases d0 : d8 = 0
          · subst d0
            go_wp2_with fail
            refine (pick_any w5 B R L (q + 1) _ hrd5 (by omega) (by omega) (by omega)).mono ?_
            rintro e w6 ⟨i, rfl, hi, hrd6, hgr6⟩
            have hO6 := hO5.overR hgr6 hR
            have hG6 := grown_trans hG5 hgr6
            clear hgr6 hrd5 hO5 hG5
            go_wp2_with fail
            refine (pick_any w6 B R L (q + 1 + 1) _ hrd6 (by omega) (by omega) (by omega)).mono ?_
            rintro e w7 ⟨d, rfl, hd, hrd7, hgr7⟩
            have hO7 := hO6.overR hgr7 hR
            have hG7 := grown_trans hG6 hgr7
            have hs7 := hG7.size
            have hgp := hO7.1.lt gp rfl
            clear hgr7 hrd6 hO6 hG6
            have him : i < m := by omega
            have hiP : i < P.length := by rw [HM.out]; exact him
            have b1 : (0 : Int) ≤ (i : Int) := by omega
            have b2 : (i : Int) < (m : Int) := by omega
            have hgd : P.getD i noP ∈ P := by rw [List.getD_eq_getElem?_getD, List.getElem?_eq_getElem hiP, Option.getD_some]; exact List.getElem_mem _
            have HLO := keptH (hPc.out _ hgd)
            clear hgd
            by_cases c0 : d = 0
            · subst c0
              have hm0 : w7.heap.size < w7.heap.size + 1 := by omega
              have hrl := hrd7.lt
              go_wp2_with fail
              refine (one_any (w7.alloc (.cells #[.int .i64 (-1), .int .i64 0, .int .i64 1, .int .i64 20, .int .i64 (-2)] 3)) B R L (q + 1 + 1 + 1) w7.heap.size 5 5 [-1, 0, 1, 20, -2] (hrd7.alloc _) (heap_alloc_new w7 _) (by omega) (Lib.hid rfl) (by omega) (by omega) (by omega)).mono ?_
              rintro e w8 ⟨z, rfl, hz, hrd8, hgr8⟩
              have hz' : -2 ≤ z ∧ z ≤ 20 := by simp at hz; omega
              have hO8 := (hO7.below (Below.alloc (Below.refl _ _) (Nat.le_refl _) _)).overR hgr8 hR
              have hG8 := grown_trans hG7 (grown_trans (World.grownBy_alloc w7 _ _) hgr8)
              have e6 := (hO8.cell3 hiP).1
              have f6 := (hO8.cell3 hiP).2.2.2 (i * 3)
              have hO9 := hO8.setR hiP z
              have hG9 := grown_own hG8 (grown_store w8 gp (i * 3) (.int .i64 z)) (fun x hx => by injection hx with hx; omega)
              have hrd9 := hrd8.over (S := w.heap.size) (grown_store w8 gp (i * 3) (.int .i64 z)) (fun x hx => by injection hx with hx; omega) hR
              have FIN := keptH (And.intro hO9.at (And.intro hrd9 hG9))
              have HP9 : Hid (∀ x ∈ P.set i ⟨z, (P.getD i noP).f, (P.getD i noP).t⟩, PcLow x) := by
                intro x hx
                rcases List.mem_or_eq_of_mem_set hx with hx | rfl
                · exact hPc.out x hx
                · have := HLO.out; exact ⟨by simp only; omega, by simp only; omega, this.2.2.1, this.2.2.2.1, this.2.2.2.2.1, this.2.2.2.2.2⟩
              clear hO7 hG7 hrd7 hz hrd8 hgr8 hO8 hG8 hO9 hG9 hrd9
              go_wp2
              go_ret
              exact ⟨_, _, _, rfl, FIN.out.1, fun x hx => (HP9.out x hx).mid, by rw [List.length_set, HM.out]; omega, FIN.out.2.1, by omega, FIN.out.2.2⟩
            · have y0 : ((d : Int) == 0) = false := by simp; omega
              by_cases c1 : d = 1
              · subst c1
                obtain ⟨e6, e7, e8, hfr⟩ := hO7.cell3 hiP
                have f8 := hfr (i * 3 + 2)
                obtain ⟨x, hx⟩ : ∃ x, P.getD i noP = x := ⟨_, rfl⟩
                have HXx := Lib.hid hx
                rw [hx] at e6 e7 e8 HLO
                clear hx hfr
                obtain ⟨r, f, t⟩ := x
                have ht := HLO.out
                simp only at e6 e7 e8
                have ht1 : 0 ≤ t := ht.2.2.2.2.1
                have ht2 : t ≤ 101 := ht.2.2.2.2.2
                have u2 : IntKind.i64.wrap (t + 1) = t + 1 := IntWalk.i64_in _ (by omega)
                have hO9 := hO7.setT hiP (t + 1)
                have hG9 := grown_own hG7 (grown_store w7 gp (i * 3 + 2) (.int .i64 (t + 1))) (fun x hx => by injection hx with hx; omega)
                have hrd9 := hrd7.over (S := w.heap.size) (grown_store w7 gp (i * 3 + 2) (.int .i64 (t + 1))) (fun x hx => by injection hx with hx; omega) hR
                have FIN := keptH (And.intro hO9.at (And.intro hrd9 hG9))
                have HP9 : Hid (∀ x ∈ P.set i ⟨(P.getD i noP).r, (P.getD i noP).f, t + 1⟩, PcMid x) := by
                  intro x hx
                  rcases List.mem_or_eq_of_mem_set hx with hx | rfl
                  · exact (hPc.out x hx).mid
                  · rw [HXx.out]; exact ⟨ht.1, ht.2.1, ht.2.2.1, ht.2.2.2.1, by simp only; omega, by simp only; omega⟩
                clear hO7 hG7 hrd7 hO9 hG9 hrd9 ht
                go_wp2
                go_ret
                exact ⟨_, _, _, rfl, FIN.out.1, HP9, by rw [List.length_set, HM.out]; omega, FIN.out.2.1, by omega, FIN.out.2.2⟩
              · have y1 : ((d : Int) == 1) = false := by simp; omega
                by_cases c2 : d = 2
                · subst c2
                  have hPA := hO7.at.takeN HM.out (k := i) (by omega)
                  have hcp : m ≤ cp ∧ cp ≤ 9223372036854775807 := by
                    obtain ⟨_, _, e, y1, y2, _⟩ := hO7.at
                    injection e with _ e2 e3
                    have := HM.out
                    subst e3
                    omega
                  have b3 : (i : Int) ≤ (cp : Int) := by omega
                  have FIN := keptH (And.intro hPA (And.intro hrd7 hG7))
                  clear hPA hrd7 hG7 hO7
                  go_wp2
                  go_ret
                  exact ⟨_, P.take i, _, rfl, FIN.out.1, fun x hx => (hPc.out x (List.mem_of_mem_take hx)).mid, by rw [List.length_take, HM.out]; omega, FIN.out.2.1, by omega, FIN.out.2.2⟩
                · have y2 : ((d : Int) == 2) = false := by simp; omega
                  have c3 : d = 3 := by omega
                  subst c3
                  obtain ⟨e6, e7, e8, _⟩ := hO7.cell3 hiP
                  obtain ⟨x, hx⟩ : ∃ x, P.getD i noP = x := ⟨_, rfl⟩
                  rw [hx] at e6 e7 e8 HLO
                  clear hx
                  obtain ⟨r, f, t⟩ := x
                  simp only at e6 e7 e8
                  have hA8 := keptH (pieceAt_alloc w7 ⟨r, f, t⟩)
                  have hO8 := keptH (hO7.below (Below.alloc (Below.refl _ _) (Nat.le_refl _) (.cells #[.int .i64 r, .int .i64 f, .int .i64 t] 59)))
                  have HG7 := keptH hG7
                  have HRD7 := keptH hrd7
                  clear hO7 hG7 hrd7
                  go_wp2_with (at_builtin; go_loud (refine wpList_append_piece rfl _ _ rfl w.heap.size w7.heap.size ⟨r, f, t⟩ rfl rfl hO8.out hA8.out (by rw [HM.out]; omega) (by simp; omega) ?_))
                  intro v8 w8 hO9 hg9
                  have hG9 : w.grownBy w8 (some R) := grown_own (grown_own HG7.out (World.grownBy_alloc w7 _ none) (by simp)) hg9 (fun q hq => (hO8.out.1.lt q hq).1)
                  have hrd9 : RD w8 B R L (q + 1 + 1 + 1) := (HRD7.out.alloc _).over (S := w.heap.size) hg9 (fun q hq => (hO8.out.1.lt q hq).1) hR
                  have FIN := keptH (And.intro hO9.at (And.intro hrd9 hG9))
                  have HP9 : Hid (∀ x ∈ P ++ [⟨r, f, t⟩], PcLow x) := by
                    intro x hx
                    rcases List.mem_append.1 hx with hx | hx
                    · exact hPc.out x hx
                    · simp at hx
                      rw [hx]
                      exact HLO.out
                  clear hO9 hG9 hrd9 hg9 hO8 hA8 e6 e7 e8
                  go_wp2
                  go_ret
                  exact ⟨_, _, _, rfl, FIN.out.1, fun x hx => (HP9.out x hx).mid, by rw [List.length_append, HM.out]; simp; omega, FIN.out.2.1, by omega, FIN.out.2.2⟩
          · have y0 : ((d8 : Int) == 0) = false := by simp; omega
            have FIN := keptH (And.intro hO5.at (And.intro hrd5 hG5))
            clear hO5 hrd5 hG5
            go_wp2
            go_ret
            exact ⟨_, P, q + 1, rfl, FIN.out.1, fun x hx => (hPc.out x hx).mid, by rw [HM.out]; omega, FIN.out.2.1, by omega, FIN.out.2.2⟩
end Go.Proofs.Ytohgglhjcklbaaa
