/- Merged: Vr Ga Gb Gc Gd Ge Gf Gk Gg Gh. -/
import Derived.Test.YthojahknocageaaMF
import Derived.Test.YthojahknocageaaME
import Derived.Test.YthojahknocageaaMD
import Derived.Deep.QuietTactic
import Derived.BigQuiet

/- Pieces that a draw has made: what it owns; the choices at a place. -/
namespace Go.Proofs.Ythojahknocageaa
open Go.RowKit

def pcell (p : PPiece) : List Value := [.int .i64 p.r, .int .i64 p.f, .int .i64 p.t]
def pcells (P : List PPiece) : List Value := P.flatMap pcell
theorem pcells_len (P : List PPiece) : (pcells P).length = P.length * 3 := by
  induction P with
  | nil => rfl
  | cons q P ih => simp [pcells, pcell] at ih ⊢; omega
theorem pcells_at : ∀ (P : List PPiece) (i : Nat) (_ : i < P.length), (pcells P)[i * 3]? = some (.int .i64 (P.getD i noP).r) ∧ (pcells P)[i * 3 + 1]? = some (.int .i64 (P.getD i noP).f) ∧ (pcells P)[i * 3 + 2]? = some (.int .i64 (P.getD i noP).t) := by
  intro P
  induction P with
  | nil => intro i h; simp at h
  | cons q P ih =>
    intro i h
    have hc : pcells (q :: P) = pcell q ++ pcells P := rfl
    have hl : (pcell q).length = 3 := rfl
    cases i with
    | zero => rw [hc]; exact ⟨rfl, rfl, rfl⟩
    | succ i =>
      have h' : i < P.length := by simpa using h
      obtain ⟨e0, e1, e2⟩ := ih i h'
      have hg : (q :: P).getD (i + 1) noP = P.getD i noP := by simp [List.getD_eq_getElem?_getD]
      rw [hc, hg]
      refine ⟨?_, ?_, ?_⟩
      · rw [List.getElem?_append_right (by rw [hl]; omega), hl, show (i + 1) * 3 - 3 = i * 3 from by omega, e0]
      · rw [List.getElem?_append_right (by rw [hl]; omega), hl, show (i + 1) * 3 + 1 - 3 = i * 3 + 1 from by omega, e1]
      · rw [List.getElem?_append_right (by rw [hl]; omega), hl, show (i + 1) * 3 + 2 - 3 = i * 3 + 2 from by omega, e2]
theorem pcells_snoc (P : List PPiece) (p : PPiece) : pcells P ++ pcell p = pcells (P ++ [p]) := by simp [pcells]
/-- the slice v owns the row of the pieces, behind S -/
def OwnPc (w : World) (S : Nat) (v : Value) (P : List PPiece) : Prop :=
  w.ownsRow S 67 3 v P.length (pcells P) ∧ ∃ g cap, v = .slice (some ⟨g, 0, none⟩) P.length cap
theorem OwnPc.at {w : World} {S : Nat} {v : Value} {P : List PPiece} (h : OwnPc w S v P) : PiecesAt w v P := by
  obtain ⟨h1, g, cap, rfl⟩ := h
  have hc : ∃ c', (Value.slice (some ⟨g, 0, none⟩) P.length cap) = .slice (some ⟨g, 0, none⟩) P.length c' ∧ P.length ≤ c' ∧ c' ≤ maxLen := by
    rcases h1.2 with ⟨h3, _⟩ | ⟨g', c', cur, h3, _, _, h4, h5, _⟩
    · simp at h3
    · injection h3 with e1 e2 e3
      exact ⟨c', by rw [e3], h4, h5⟩
  obtain ⟨c', he, hle, hmx⟩ := hc
  injection he with _ _ hcc
  subst hcc
  refine ⟨_, cap, rfl, hle, by unfold maxLen at hmx; exact hmx, .inr ⟨g, 0, rfl, fun i hi => ?_⟩⟩
  rw [Nat.zero_add]
  obtain ⟨e0, e1, e2⟩ := pcells_at P i hi
  exact ⟨(h1.cellAt (i * 3) (by omega)).trans e0, (h1.cellAt (i * 3 + 1) (by omega)).trans e1, (h1.cellAt (i * 3 + 2) (by omega)).trans e2⟩
theorem OwnPc.below {w w' : World} {S : Nat} {v : Value} {P : List PPiece} (h : OwnPc w S v P) (hb : Below w.heap.size w w') : OwnPc w' S v P :=
  ⟨h.1.kept (row := none) ⟨hb.os, hb.tape, hb.output, hb.size, fun k hk _ => hb.block k hk⟩ (by cases hv : v.ownBlock <;> simp), h.2⟩
theorem OwnPc.overR {w w' : World} {S R : Nat} {v : Value} {P : List PPiece} (h : OwnPc w S v P) (hg : w.grownBy w' (some R)) (hRS : R < S) : OwnPc w' S v P := by
  refine ⟨h.1.kept hg ?_, h.2⟩
  cases hv : v.ownBlock with
  | none => exact .inl rfl
  | some k => refine .inr fun e => ?_; injection e with e; have := (h.1.lt k hv).1; omega
theorem OwnPc.made (w : World) (S : Nat) (hS : S ≤ w.heap.size) : OwnPc (w.alloc (.cells #[] 67)) S (.slice (some ⟨w.heap.size, 0, none⟩) 0 0) [] :=
  ⟨World.ownsRow_made w #[] 0 hS (by unfold maxLen; omega) rfl, _, 0, rfl⟩
theorem pieceAt_alloc (w : World) (p : PPiece) : PieceAt (w.alloc (.cells #[.int .i64 p.r, .int .i64 p.f, .int .i64 p.t] 67)) w.heap.size 0 p :=
  ⟨by rw [cell_of_row _ w.heap.size _ _ _ _ (heap_alloc_new w _)]; rfl, by rw [cell_of_row _ w.heap.size _ _ _ _ (heap_alloc_new w _)]; rfl, by rw [cell_of_row _ w.heap.size _ _ _ _ (heap_alloc_new w _)]; rfl⟩
theorem wpList_append_piece {ops : Array Oper} {rest : List Oper} {o : Oper} {a : Act} {w : World} {Q : Exit → Act → World → Prop} (hgd : o.guard = none) (s x : Operand)
    (ho : o.op = .call { callee := .builtin .append, args := #[s, x], argTypes := #[61, 61] }) (base g : Nat) {v : Value} {P : List PPiece} (p : PPiece) (hs : a.eval s = v) (hx : a.eval x = .slice (some ⟨g, 0, none⟩) 1 1)
    (h1 : OwnPc w base v P) (h2 : PieceAt w g 0 p) (hl : P.length ≤ 100000) (hbase : base ≤ w.heap.size)
    (h : ∀ v' w', OwnPc w' base v' (P ++ [p]) → w.grownBy w' v.ownBlock → wpList Try.prog ops Q rest (a.put o.dst v') w') : wpList Try.prog ops Q (o :: rest) a w := by
  obtain ⟨i0, hi, hz0, hz1, hz2⟩ := info_parts infoPiece
  refine wpList_append_own w hgd s x 61 ho base 67 i0 (.agg #[.int .i64 0, .int .i64 0, .int .i64 0]) 3 24 Try.underlying61 hi hz0 hz1 hz2 rfl (by decide) v P.length (pcells P) hs h1.1 ⟨g, 0, none⟩ 1 1 (pcell p) hx rfl ?_ ?_ (by unfold maxLen; omega) (by omega) hbase ?_
  · intro j u hj
    obtain ⟨c0, c1, c2⟩ := h2
    rw [Addr.add_lit]
    match j, hj with
    | 0, hj => rw [c0]; exact hj
    | 1, hj => rw [c1]; exact hj
    | 2, hj => rw [c2]; exact hj
  · intro u hu
    simp [pcell] at hu
    rcases hu with rfl | rfl | rfl <;> rfl
  · intro v' w' hown hgrow hnil
    refine h v' w' ⟨?_, ?_⟩ hgrow
    · rw [List.length_append, ← pcells_snoc]; exact hown
    · rw [List.length_append]
      rcases hown.2 with ⟨_, e⟩ | ⟨g', c', cur, e, _⟩
      · simp at e
      · exact ⟨g', c', e⟩
theorem pcells_setR : ∀ (P : List PPiece) (i : Nat) (_ : i < P.length) (z : Int), (pcells P).set (i * 3) (.int .i64 z) = pcells (P.set i ⟨z, (P.getD i noP).f, (P.getD i noP).t⟩) := by
  intro P
  induction P with
  | nil => intro i h; simp at h
  | cons q P ih =>
    intro i h z
    have hl : (pcell q).length = 3 := rfl
    cases i with
    | zero => rfl
    | succ i =>
      have h' : i < P.length := by simpa using h
      have hg : (q :: P).getD (i + 1) noP = P.getD i noP := by simp [List.getD_eq_getElem?_getD]
      show (pcell q ++ pcells P).set ((i + 1) * 3) _ = _
      rw [hg, List.set_append_right _ _ (by rw [hl]; omega), hl, show (i + 1) * 3 - 3 = i * 3 from by omega, ih i h' z]
      rfl
theorem pcells_setT : ∀ (P : List PPiece) (i : Nat) (_ : i < P.length) (z : Int), (pcells P).set (i * 3 + 2) (.int .i64 z) = pcells (P.set i ⟨(P.getD i noP).r, (P.getD i noP).f, z⟩) := by
  intro P
  induction P with
  | nil => intro i h; simp at h
  | cons q P ih =>
    intro i h z
    have hl : (pcell q).length = 3 := rfl
    cases i with
    | zero => rfl
    | succ i =>
      have h' : i < P.length := by simpa using h
      have hg : (q :: P).getD (i + 1) noP = P.getD i noP := by simp [List.getD_eq_getElem?_getD]
      show (pcell q ++ pcells P).set ((i + 1) * 3 + 2) _ = _
      rw [hg, List.set_append_right _ _ (by rw [hl]; omega), hl, show (i + 1) * 3 + 2 - 3 = i * 3 + 2 from by omega, ih i h' z]
      rfl
theorem OwnPc.setR {w : World} {S g n cap : Nat} {P : List PPiece} (h : OwnPc w S (.slice (some ⟨g, 0, none⟩) n cap) P) {i : Nat} (hi : i < P.length) (z : Int) :
    OwnPc (w.setCell ⟨g, i * 3, none⟩ (.int .i64 z)) S (.slice (some ⟨g, 0, none⟩) n cap) (P.set i ⟨z, (P.getD i noP).f, (P.getD i noP).t⟩) := by
  obtain ⟨h1, g', cap', e⟩ := h
  injection e with e1 e2 e3
  subst e2
  have := (h1.stored (i * 3) (.int .i64 z)).1
  rw [pcells_setR P i hi z] at this
  exact ⟨by rw [List.length_set]; exact this, g, cap, by rw [List.length_set]⟩
theorem OwnPc.setT {w : World} {S g n cap : Nat} {P : List PPiece} (h : OwnPc w S (.slice (some ⟨g, 0, none⟩) n cap) P) {i : Nat} (hi : i < P.length) (z : Int) :
    OwnPc (w.setCell ⟨g, i * 3 + 2, none⟩ (.int .i64 z)) S (.slice (some ⟨g, 0, none⟩) n cap) (P.set i ⟨(P.getD i noP).r, (P.getD i noP).f, z⟩) := by
  obtain ⟨h1, g', cap', e⟩ := h
  injection e with e1 e2 e3
  subst e2
  have := (h1.stored (i * 3 + 2) (.int .i64 z)).1
  rw [pcells_setT P i hi z] at this
  exact ⟨by rw [List.length_set]; exact this, g, cap, by rw [List.length_set]⟩
theorem OwnPc.cell3 {w : World} {S g n cap : Nat} {P : List PPiece} (h : OwnPc w S (.slice (some ⟨g, 0, none⟩) n cap) P) {i : Nat} (hi : i < P.length) :
    w.cell? ⟨g, i * 3, none⟩ = some (.int .i64 (P.getD i noP).r) ∧ w.cell? ⟨g, i * 3 + 1, none⟩ = some (.int .i64 (P.getD i noP).f) ∧ w.cell? ⟨g, i * 3 + 2, none⟩ = some (.int .i64 (P.getD i noP).t) ∧ ∀ j, w.frozen? ⟨g, j, none⟩ = false := by
  obtain ⟨h1, g', cap', e⟩ := h
  injection e with e1 e2 e3
  subst e2
  obtain ⟨f0, f1, f2⟩ := pcells_at P i hi
  exact ⟨(h1.cellAt _ (by omega)).trans f0, (h1.cellAt _ (by omega)).trans f1, (h1.cellAt _ (by omega)).trans f2, fun j => h1.frozenAt j⟩
theorem PiecesAt.takeN {w : World} {g n c k : Nat} {P : List PPiece} (h : PiecesAt w (.slice (some ⟨g, 0, none⟩) n c) P) (hn : P.length = n) (hk : k ≤ n) : PiecesAt w (.slice (some ⟨g, 0, none⟩) k c) (P.take k) := by
  obtain ⟨a, cp, e, x1, x2, x3⟩ := h
  injection e with e1 e2 e3
  subst e1 e3
  have hl : (P.take k).length = k := by simp; omega
  refine ⟨_, c, by rw [hl], by omega, x2, ?_⟩
  rcases x3 with rfl | ⟨g', off, e, x3⟩
  · exact .inl (by simp)
  · refine .inr ⟨g', off, e, fun i hi => ?_⟩
    rw [List.getD_eq_getElem?_getD, List.getElem?_take, if_pos (by omega), ← List.getD_eq_getElem?_getD]
    exact x3 i (by omega)
theorem grown_pc {B : Nat} {w wr w' : World} {v : Value} {P : List PPiece} {o : Obj} (hb : Below B w wr) (hs : B ≤ wr.heap.size) (ho : OwnPc wr B v P) (hg : (wr.alloc o).grownBy w' v.ownBlock) : Below B w w' :=
  (hb.alloc hs o).grown hg (by have h := (World.grownBy_alloc wr o none).size; omega) (fun k hk => (ho.1.lt k hk).1)

theorem TableAt.ruleAt {w : World} {g n c k : Nat} {T : List PRule} (h : TableAt w (.slice (some ⟨g, 0, none⟩) n c) T) (hn : T.length = n) (hk : k < n) : RuleAt w g (k * 3) (T.getD k noR) := by
  obtain ⟨a, cp, e, x1, x2, x3⟩ := h
  injection e with e1 e2 e3
  rcases x3 with rfl | ⟨g', off, e, x3⟩
  · simp at hn; omega
  · rw [e] at e1
    injection e1 with e1
    injection e1 with e1 e4 _
    subst e1 e4
    have := x3 k (by omega)
    rw [Nat.zero_add] at this
    exact this
/-- a piece that may come at a place -/
def PcOf (k : Nat) (p : PPiece) : Prop := -1 ≤ p.r ∧ p.r ≤ 16 ∧ p.f = (k : Int) ∧ (k : Int) + 1 ≤ p.t ∧ p.t ≤ (k : Int) + 6
set_option maxHeartbeats 4000000 in
theorem choices_any (w : World) (g n c : Nat) (T : List PRule) (s : ByteArray) (k : Nat) (hx : TableAt w (.slice (some ⟨g, 0, none⟩) n c) T) (hn : T.length = n) (hv : Hid (ValidTb T)) (hk : k ≤ 100) :
    Calls Try.prog 71 #[.slice (some ⟨g, 0, none⟩) n c, .string s, .int .i64 k] w fun e w' => ∃ v P, e = .returned v ∧ OwnPc w' w.heap.size v P ∧ 1 ≤ P.length ∧ P.length ≤ 100 ∧ Hid (∀ p ∈ P, PcOf k p) ∧ Below w.heap.size w w' := by
  have hn16 : n ≤ 16 := by have := hv.out.1; omega
  have HN := Lib.hid hn
  have HX := keptH hx
  have hO0 := OwnPc.made w w.heap.size (Nat.le_refl _)
  have hB0 : Below w.heap.size w (w.alloc (.cells #[] 67)) := (Below.refl _ _).alloc (Nat.le_refl _) _
  have HO0 := keptH hO0
  have HB0 := keptH hB0
  clear hx hn hO0 hB0
  go_enter Try.func71, Try.ntmps71
  go_wp2
  go_loopw [7, 8] (fun o m wr => ∃ (m' : Nat) (P : List PPiece), m' ≤ 6 ∧ m = .int .i64 m' ∧ OwnPc wr w.heap.size o P ∧ P.length + m' * 16 ≤ 96 ∧ Hid (∀ p ∈ P, PcOf k p) ∧ Below w.heap.size w wr) (fun _ m _ => (intOf m).toNat)
  case atStart => exact ⟨6, [], by omega, rfl, HO0.out, by simp, fun p hp => absurd hp (by simp), HB0.out⟩
  case round =>
    obtain ⟨m, P, hm, rfl, hO, hPl, hPc, hb⟩ := hrel
    have hsz := hb.size
    by_cases hm0 : 0 < m
    · have HP0 := keptH hPc
      have bm : (0 : Int) < (m : Int) := by omega
      have um : IntKind.i64.wrap ((m : Int) - 1) = (m : Int) - 1 := IntWalk.i64_in _ (by omega)
      go_wp2_with fail
      go_loopw [7, 9] (fun o i w2 => ∃ (j : Nat) (P' : List PPiece), j ≤ n ∧ i = .int .i64 j ∧ OwnPc w2 w.heap.size o P' ∧ P'.length ≤ P.length + j ∧ Hid (∀ p ∈ P', PcOf k p) ∧ Below w.heap.size w w2) (fun _ i _ => n - (intOf i).toNat)
      case atStart => exact ⟨0, P, by omega, rfl, hO, by omega, HP0.out, hb⟩
      case round =>
        clear hO hb hPc HP0
        obtain ⟨j, P', hj, rfl, hO, hPl', hPc, hb⟩ := hrel
        have hsz2 := hb.size
        by_cases hlt : j < n
        · have hru := (HX.out.below hb).ruleAt HN.out hlt
          have hvr := hv.out.2.1 j (by rw [HN.out]; exact hlt)
          obtain ⟨r, hr⟩ : ∃ r, T.getD j noR = r := ⟨_, rfl⟩
          rw [hr] at hru hvr
          clear hr
          obtain ⟨t, ys, q⟩ := r
          obtain ⟨c0, ⟨u, c1, hu⟩, c2⟩ := hru
          have HU : Hid (IntsAt _ u ys) := hu
          obtain ⟨au, cu, rfl, _⟩ := hu
          simp only at c0 c1 c2
          have HVR := Lib.hid hvr
          clear hvr
          have HPc := keptH hPc
          have HB := keptH hb
          have HO := keptH hO
          clear hPc hb hO
          have b1 : (0 : Int) ≤ (j : Int) := by omega
          have b2 : (j : Int) < (n : Int) := by omega
          by_cases hts : t.size = m
          · have d1 : ((t.size : Int) == (m : Int)) = true := by simp; omega
            obtain ⟨b, hb⟩ : ∃ b, decide (App ⟨t, ys, q⟩ s (k : Int)) = b := ⟨_, rfl⟩
            have HBB := Lib.hid hb
            clear hb
            go_wp2_with fail
            refine (s_applies_v _ _ t ys q s k b HU.out HVR (by omega) HBB).mono ?_
            rintro e w2 ⟨rfl, hb2⟩
            have hO2 := HO.out.below hb2
            have hB2 := HB.out.trans (hb2.mono hsz2)
            have hs2 := hB2.size
            clear hb2 c0 c1 c2
            cases b with
            | true =>
              have u2 : IntKind.i64.wrap ((k : Int) + (m : Int)) = (k : Int) + (m : Int) := IntWalk.i64_in _ (by omega)
              have hA2 := pieceAt_alloc w2 ⟨(j : Int), (k : Int), (k : Int) + (m : Int)⟩
              have hO2a := hO2.below (Below.alloc (Below.refl _ _) (Nat.le_refl _) (.cells #[.int .i64 (j : Int), .int .i64 (k : Int), .int .i64 ((k : Int) + (m : Int))] 67))
              go_wp2_with (at_builtin; go_loud (refine wpList_append_piece rfl _ _ rfl w.heap.size w2.heap.size ⟨(j : Int), (k : Int), (k : Int) + (m : Int)⟩ rfl rfl hO2a hA2 (by omega) (by simp; omega) ?_))
              intro v3 w3 hO3 hg3
              have hB3 := grown_pc hB2 hs2 hO2 hg3
              have HB3 := keptH hB3
              have HO3 := keptH hO3
              have HP3 : Hid (∀ p ∈ P' ++ [⟨(j : Int), (k : Int), (k : Int) + (m : Int)⟩], PcOf k p) := by
                intro p hp
                rcases List.mem_append.1 hp with hp | hp
                · exact HPc.out p hp
                · simp at hp
                  subst hp
                  exact ⟨by simp only; omega, by simp only; omega, rfl, by simp only; omega, by simp only; omega⟩
              have hl3 : (P' ++ [(⟨(j : Int), (k : Int), (k : Int) + (m : Int)⟩ : PPiece)]).length ≤ P.length + (j + 1) := by simp; omega
              clear hO2 hB2 hA2 hO2a hO3 hB3 hg3
              go_wp2
              go_roundw
              case rel => exact ⟨j + 1, _, by omega, by go_num, HO3.out, hl3, HP3, HB3.out⟩
              case measure => simp [intOf]; omega
            | false =>
              have HB3 := keptH hB2
              have HO3 := keptH hO2
              clear hO2 hB2
              go_wp2
              go_roundw
              case rel => exact ⟨j + 1, P', by omega, by go_num, HO3.out, by omega, HPc, HB3.out⟩
              case measure => simp [intOf]; omega
          · have d1 : ((t.size : Int) == (m : Int)) = false := by simp; omega
            go_wp2
            go_roundw
            case rel => exact ⟨j + 1, P', by omega, by go_num, HO.out, by omega, HPc, HB.out⟩
            case measure => simp [intOf]; omega
        · have HB3 := keptH hb
          have HO3 := keptH hO
          clear hb hO
          go_wp2
          go_roundw
          case rel => exact ⟨m - 1, P', by omega, by go_num, HO3.out, by omega, hPc, HB3.out⟩
          case measure => simp [intOf]; omega
    · obtain rfl : m = 0 := by omega
      have hl : P.length ≤ 96 := by omega
      have HB2 := keptH hb
      have HA2 := keptH (pieceAt_alloc wr ⟨-1, (k : Int), (k : Int) + 1⟩)
      have hO2a := hO.below (Below.alloc (Below.refl _ _) (Nat.le_refl _) (.cells #[.int .i64 (-1), .int .i64 (k : Int), .int .i64 ((k : Int) + 1)] 67))
      have HO2 := keptH hO
      have HP0 := keptH hPc
      clear hb hO hPc hPl hm hm0
      go_wp2_with (at_builtin; go_loud (refine wpList_append_piece rfl _ _ rfl w.heap.size wr.heap.size ⟨-1, (k : Int), (k : Int) + 1⟩ rfl rfl hO2a HA2.out (by omega) (by simp; omega) ?_))
      intro v3 w3 hO3 hg3
      have hB3 := grown_pc HB2.out hsz HO2.out hg3
      have HB3 := keptH hB3
      have HO3 := keptH hO3
      have HP3 : Hid (∀ p ∈ P ++ [⟨-1, (k : Int), (k : Int) + 1⟩], PcOf k p) := by
        intro p hp
        rcases List.mem_append.1 hp with hp | hp
        · exact HP0.out.out p hp
        · simp at hp
          subst hp
          exact ⟨by simp only; omega, by simp only; omega, rfl, by simp only; omega, by simp only; omega⟩
      clear hO3 hB3 hg3 hO2a
      go_wp2
      go_ret
      exact ⟨_, _, rfl, HO3.out, by simp, by simp; omega, HP3, HB3.out⟩
end Go.Proofs.Ythojahknocageaa


/- The longest rule of those that apply, the first of several. -/
namespace Go.Proofs.Ythojahknocageaa
open Go.RowKit

def szR (T : List PRule) (r : Int) : Nat := (T.getD r.toNat noR).t.size
/-- the longest of the first k rules of a list, the first of several, -1 for none -/
def lgTo (T : List PRule) (L : List Int) : Nat → Int
  | 0 => -1
  | k + 1 => if lgTo T L k = -1 ∨ szR T (lgTo T L k) < szR T (L.getD k 0) then L.getD k 0 else lgTo T L k
theorem lgTo_mem (T : List PRule) (L : List Int) : ∀ k, k ≤ L.length → lgTo T L k = -1 ∨ lgTo T L k ∈ L := by
  intro k
  induction k with
  | zero => intro _; exact .inl rfl
  | succ k ih =>
    intro hk
    show (if _ then _ else _) = _ ∨ (if _ then _ else _) ∈ _
    split
    · exact .inr (getD_mem (by omega))
    · exact ih (by omega)
/-- the rule with the index r is the best one at a place; -1 if none applies -/
def Bst (T : List PRule) (s : ByteArray) (a : Int) (r : Int) : Prop :=
  (r = -1 ∧ ∀ i, i < T.length → ¬ App (T.getD i noR) s a) ∨
  (∃ j : Nat, r = j ∧ j < T.length ∧ App (T.getD j noR) s a ∧ ∀ i, i < T.length → App (T.getD i noR) s a → (T.getD i noR).t.size < (T.getD j noR).t.size ∨ ((T.getD i noR).t.size = (T.getD j noR).t.size ∧ j ≤ i))
theorem Bst.same {T : List PRule} {s : ByteArray} {a r r' : Int} (h : Bst T s a r) (h' : Bst T s a r') : r = r' := by
  rcases h with ⟨rfl, h⟩ | ⟨j, rfl, hj, hA, h⟩
  · rcases h' with ⟨rfl, _⟩ | ⟨j', rfl, hj', hA', _⟩
    · rfl
    · exact absurd hA' (h j' hj')
  · rcases h' with ⟨rfl, h'⟩ | ⟨j', rfl, hj', hA', h'⟩
    · exact absurd hA (h' j hj)
    · have h1 := h j' hj' hA'
      have h2 := h' j hj hA
      have : j = j' := by omega
      rw [this]
theorem lgTo_grow {T : List PRule} {L : List Int} {k : Nat} (x : Int) : lgTo T (L ++ [x]) (L.length + 1) = (if lgTo T L L.length = -1 ∨ szR T (lgTo T L L.length) < szR T x then x else lgTo T L L.length) ∨ k < 0 := by
  left
  have hle : ∀ m, m ≤ L.length → lgTo T (L ++ [x]) m = lgTo T L m := by
    intro m
    induction m with
    | zero => intro _; rfl
    | succ m ih =>
      intro hm
      have hg : (L ++ [x]).getD m 0 = L.getD m 0 := by rw [List.getD_eq_getElem?_getD, List.getElem?_append_left (by omega), ← List.getD_eq_getElem?_getD]
      show (if lgTo T (L ++ [x]) m = -1 ∨ szR T (lgTo T (L ++ [x]) m) < szR T ((L ++ [x]).getD m 0) then (L ++ [x]).getD m 0 else lgTo T (L ++ [x]) m) = (if lgTo T L m = -1 ∨ szR T (lgTo T L m) < szR T (L.getD m 0) then L.getD m 0 else lgTo T L m)
      rw [ih (by omega), hg]
  have hg : (L ++ [x]).getD L.length 0 = x := by simp [List.getD_eq_getElem?_getD]
  show (if lgTo T (L ++ [x]) L.length = -1 ∨ szR T (lgTo T (L ++ [x]) L.length) < szR T ((L ++ [x]).getD L.length 0) then (L ++ [x]).getD L.length 0 else lgTo T (L ++ [x]) L.length) = _
  rw [hle _ (Nat.le_refl _), hg]
/-- best among the first n rules -/
def BstTo (T : List PRule) (s : ByteArray) (a : Int) (n : Nat) (r : Int) : Prop :=
  (r = -1 ∧ ∀ i, i < n → ¬ App (T.getD i noR) s a) ∨
  (∃ j : Nat, r = j ∧ j < n ∧ App (T.getD j noR) s a ∧ ∀ i, i < n → App (T.getD i noR) s a → (T.getD i noR).t.size < (T.getD j noR).t.size ∨ ((T.getD i noR).t.size = (T.getD j noR).t.size ∧ j ≤ i))
theorem lgTo_best (T : List PRule) (s : ByteArray) (a : Int) : ∀ n, BstTo T s a n (lgTo T (rulesTo T s a n) (rulesTo T s a n).length) := by
  intro n
  induction n with
  | zero => exact .inl ⟨rfl, fun i hi => by omega⟩
  | succ n ih =>
    by_cases hA : App (T.getD n noR) s a
    · rw [rulesTo_yes hA, List.length_append, List.length_singleton]
      rcases lgTo_grow (T := T) (L := rulesTo T s a n) (k := 0) (n : Int) with e | e
      · rw [e]
        right
        rcases ih with ⟨h1, h2⟩ | ⟨j, h1, hj, hAj, h2⟩
        · rw [h1, if_pos (.inl rfl)]
          refine ⟨n, rfl, by omega, hA, fun i hi hi2 => ?_⟩
          by_cases hin : i < n
          · exact absurd hi2 (h2 i hin)
          · have : i = n := by omega
            subst this
            exact .inr ⟨rfl, Nat.le_refl _⟩
        · rw [h1]
          by_cases hs : (T.getD j noR).t.size < (T.getD n noR).t.size
          · rw [if_pos (.inr (by unfold szR; simpa using hs))]
            refine ⟨n, rfl, by omega, hA, fun i hi hi2 => ?_⟩
            by_cases hin : i < n
            · have := h2 i hin hi2; omega
            · have : i = n := by omega
              subst this
              exact .inr ⟨rfl, Nat.le_refl _⟩
          · rw [if_neg (by
              intro h
              rcases h with h | h
              · omega
              · exact hs (by unfold szR at h; simpa using h))]
            refine ⟨j, rfl, by omega, hAj, fun i hi hi2 => ?_⟩
            by_cases hin : i < n
            · exact h2 i hin hi2
            · have : i = n := by omega
              subst this
              omega
      · omega
    · rw [rulesTo_no hA]
      rcases ih with ⟨h1, h2⟩ | ⟨j, h1, hj, hAj, h2⟩
      · exact .inl ⟨h1, fun i hi hi2 => by
          by_cases hin : i < n
          · exact h2 i hin hi2
          · have : i = n := by omega
            subst this
            exact hA hi2⟩
      · exact .inr ⟨j, h1, by omega, hAj, fun i hi hi2 => by
          by_cases hin : i < n
          · exact h2 i hin hi2
          · have : i = n := by omega
            subst this
            exact absurd hi2 hA⟩
theorem lgTo_bst (T : List PRule) (s : ByteArray) (a : Int) : Bst T s a (lgTo T (rulesL T s a) (rulesL T s a).length) := lgTo_best T s a T.length

set_option maxHeartbeats 4000000 in
theorem i_longestRule (w : World) (v u : Value) (T : List PRule) (L : List Int) (hx : TableAt w v T) (hf : Hid (∀ k, (T.getD k noR).t.size ≤ 100)) (hy : IntsAt w u L) (hL : Hid (∀ z ∈ L, 0 ≤ z ∧ z < T.length)) :
    Calls Try.prog 65 #[v, u] w fun e w' => e = .returned (.int .i64 (lgTo T L L.length)) ∧ Below w.heap.size w w' := by
  have HX := Lib.hid hx
  obtain ⟨ta, tc, rfl, hxx⟩ := hx
  clear hxx
  have HY := Lib.hid hy
  obtain ⟨a2, c2, rfl, x1, x2, x3⟩ := hy
  obtain ⟨m, hm⟩ : ∃ m, L.length = m := ⟨_, rfl⟩
  rw [hm] at x1 x3 ⊢
  have HM := Lib.hid hm
  clear hm
  obtain ⟨tn, htn⟩ : ∃ tn, T.length = tn := ⟨_, rfl⟩
  rw [htn] at HX hL ⊢
  have HTN := Lib.hid htn
  clear htn
  go_enter Try.func65, Try.ntmps65
  go_wp2
  go_loopw [5, 10] (fun o i wr => ∃ k : Nat, k ≤ m ∧ i = .int .i64 k ∧ o = .int .i64 (lgTo T L k) ∧ Below w.heap.size w wr) (fun _ i _ => m - (intOf i).toNat)
  case atStart => exact ⟨0, Nat.zero_le _, rfl, rfl, Below.refl _ _⟩
  case round =>
    obtain ⟨k, hk, rfl, rfl, hb⟩ := hrel
    by_cases hlt : k < m
    · rcases x3 with rfl | ⟨g2, off2, rfl, x3⟩
      · exact absurd HM.out (by simp; omega)
      have cz := x3 k hlt
      have cz := (hb.cell (World.block_lt_of_cell? w _ cz)).trans cz
      have hz := hL.out (L.getD k 0) (getD_mem (by rw [HM.out]; exact hlt))
      have hmem := lgTo_mem T L k (by rw [HM.out]; omega)
      have hstep : lgTo T L (k + 1) = if lgTo T L k = -1 ∨ szR T (lgTo T L k) < szR T (L.getD k 0) then L.getD k 0 else lgTo T L k := rfl
      obtain ⟨z, hze⟩ : ∃ z, L.getD k 0 = z := ⟨_, rfl⟩
      rw [hze] at cz hz hstep
      clear hze x3
      obtain ⟨j, rfl⟩ : ∃ j : Nat, z = j := ⟨z.toNat, by omega⟩
      have hj : j < tn := by omega
      obtain ⟨gt, offt, rfl⟩ := HX.out.someAddr (by rw [HTN.out]; omega)
      have r1 := ((HX.out.below hb).nth (k := j) (by rw [HTN.out]; exact hj)).1
      have hs1 := hf.out j
      obtain ⟨t1, ht1⟩ : ∃ t1, (T.getD j noR).t = t1 := ⟨_, rfl⟩
      have hsz1 : szR T (j : Int) = t1.size := by unfold szR; rw [Int.toNat_natCast, ht1]
      rw [ht1] at r1 hs1
      rw [hsz1] at hstep
      obtain ⟨bs, hbs⟩ : ∃ bs, lgTo T L k = bs := ⟨_, rfl⟩
      rw [hbs] at hstep hmem
      have b1 : (0 : Int) ≤ (j : Int) := by omega
      have b2 : (j : Int) < (tn : Int) := by omega
      clear ht1 hsz1
      rcases hmem with rfl | hmem
      · rw [if_pos (.inl rfl)] at hstep
        have HST := Lib.hid hstep
        have HBR := keptH hb
        clear hstep hb hz
        rw [hbs]
        clear hbs
        go_wp2_with fail
        go_quiet (fail)
        go_wp2
        go_roundw
        case rel => exact ⟨k + 1, by omega, by go_num, by rw [HST.out], below_drewN HBR.out _⟩
        case measure => simp [intOf]; omega
      · have hz2 := hL.out bs hmem
        obtain ⟨j2, rfl⟩ : ∃ j2 : Nat, bs = j2 := ⟨bs.toNat, by omega⟩
        have hj2 : j2 < tn := by omega
        have r2 := ((HX.out.below hb).nth (k := j2) (by rw [HTN.out]; exact hj2)).1
        have hs2 := hf.out j2
        obtain ⟨t2, ht2⟩ : ∃ t2, (T.getD j2 noR).t = t2 := ⟨_, rfl⟩
        have hsz2 : szR T (j2 : Int) = t2.size := by unfold szR; rw [Int.toNat_natCast, ht2]
        rw [ht2] at r2 hs2
        rw [hsz2] at hstep
        have b3 : (0 : Int) ≤ (j2 : Int) := by omega
        have b4 : (j2 : Int) < (tn : Int) := by omega
        have d0 : ((j2 : Int) == -1) = false := by simp
        have HBR := keptH hb
        rw [hbs]
        clear ht2 hsz2 hbs hb hz hz2 hmem
        by_cases hcmp : t2.size < t1.size
        · rw [if_pos (.inr hcmp)] at hstep
          have HST := Lib.hid hstep
          have d1 : decide ((t2.size : Int) < (t1.size : Int)) = true := decide_eq_true (by omega)
          clear hstep
          go_wp2_with fail
          go_quiet (fail)
          go_wp2
          go_roundw
          case rel => exact ⟨k + 1, by omega, by go_num, by rw [HST.out], below_drewN HBR.out _⟩
          case measure => simp [intOf]; omega
        · rw [if_neg (by omega)] at hstep
          have HST := Lib.hid hstep
          have d1 : decide ((t2.size : Int) < (t1.size : Int)) = false := decide_eq_false (by omega)
          clear hstep
          go_wp2_with fail
          go_quiet (fail)
          go_wp2
          go_roundw
          case rel => exact ⟨k + 1, by omega, by go_num, by rw [HST.out], below_drewN HBR.out _⟩
          case measure => simp [intOf]; omega
    · obtain rfl : k = m := by omega
      go_wp2
      go_ret
      exact ⟨rfl, hb⟩
end Go.Proofs.Ythojahknocageaa


/- The piece at a place; rows of pieces that begin as nil. -/
namespace Go.Proofs.Ythojahknocageaa
open Go.RowKit

/-- the piece of the rule r at the place k, one letter for -1 -/
def pcB (T : List PRule) (k : Nat) (r : Int) : PPiece := if r = -1 then ⟨-1, k, (k : Int) + 1⟩ else ⟨r, k, (k : Int) + szR T r⟩
set_option maxHeartbeats 2000000 in
theorem i_pieceAt (w : World) (v : Value) (T : List PRule) (r : Int) (k : Nat) (hx : TableAt w v T) (hf : Hid (∀ k, (T.getD k noR).t.size ≤ 100)) (hr : r = -1 ∨ (0 ≤ r ∧ r < T.length)) (hk : k ≤ 1000) (hb : T.length ≤ 1000) :
    Calls Try.prog 64 #[v, .int .i64 r, .int .i64 k] w fun e w' => e = .returned (.agg #[.int .i64 (pcB T k r).r, .int .i64 (pcB T k r).f, .int .i64 (pcB T k r).t]) ∧ Below w.heap.size w w' := by
  have HX := Lib.hid hx
  obtain ⟨ta, tc, rfl, hxx⟩ := hx
  clear hxx
  obtain ⟨tn, htn⟩ : ∃ tn, T.length = tn := ⟨_, rfl⟩
  rw [htn] at HX hr hb ⊢
  have HTN := Lib.hid htn
  clear htn
  have hB1 : Below w.heap.size w (w.alloc (.cells #[.int .i64 0, .int .i64 0, .int .i64 0] 67)) := (Below.refl _ _).alloc (Nat.le_refl _) _
  have k0 := heap_alloc_new w (.cells #[.int .i64 0, .int .i64 0, .int .i64 0] 67)
  have K0 := keptH k0
  have HB1 := keptH hB1
  clear k0 hB1
  rcases hr with rfl | ⟨h0, h1⟩
  · have u1 : IntKind.i64.wrap ((k : Int) + 1) = (k : Int) + 1 := IntWalk.i64_in _ (by omega)
    have K1 := keptH (heap_alloc_new w (.cells #[.int .i64 (-1), .int .i64 (k : Int), .int .i64 ((k : Int) + 1)] 67))
    go_enter Try.func64, Try.ntmps64
    go_wp2
    refine bodyPost_ret (results_cell_row rfl _ _ w.heap.size _ #[.int .i64 (-1), .int .i64 (k : Int), .int .i64 ((k : Int) + 1)] _ _ rfl K1.out Try.underlying67 rfl (by kernel_rfl)) rfl ?_
    exact ⟨rfl, (Below.refl _ _).alloc (Nat.le_refl _) _⟩
  · obtain ⟨j, rfl⟩ : ∃ j : Nat, r = j := ⟨r.toNat, by omega⟩
    have hj : j < tn := by omega
    obtain ⟨gt, offt, rfl⟩ := HX.out.someAddr (by rw [HTN.out]; omega)
    have hpc : Hid (pcB T k (j : Int) = ⟨(j : Int), (k : Int), (k : Int) + ((T.getD j noR).t.size : Int)⟩) := by
      show _ = _
      rw [pcB, if_neg (by omega), szR, Int.toNat_natCast]
    have r0 := (HX.out.nth (k := j) (by rw [HTN.out]; exact hj)).1
    have r1 := ((HX.out.below ((Below.refl _ _).alloc (Nat.le_refl _) (.cells #[.int .i64 0, .int .i64 0, .int .i64 0] 67))).nth (k := j) (by rw [HTN.out]; exact hj)).1
    have hs1 := hf.out j
    rw [hpc.out]
    obtain ⟨t1, ht1⟩ : ∃ t1, (T.getD j noR).t = t1 := ⟨_, rfl⟩
    rw [ht1] at r0 r1 hs1 ⊢
    clear ht1 hpc h0 h1
    have b1 : (0 : Int) ≤ (j : Int) := by omega
    have b2 : (j : Int) < (tn : Int) := by omega
    have d0 : ((j : Int) == -1) = false := by simp
    have u1 : IntKind.i64.wrap ((k : Int) + (t1.size : Int)) = (k : Int) + (t1.size : Int) := IntWalk.i64_in _ (by omega)
    have K1 := keptH (heap_alloc_new w (.cells #[.int .i64 (j : Int), .int .i64 (k : Int), .int .i64 ((k : Int) + (t1.size : Int))] 67))
    go_enter Try.func64, Try.ntmps64
    go_wp2
    refine bodyPost_ret (results_cell_row rfl _ _ w.heap.size _ #[.int .i64 (j : Int), .int .i64 (k : Int), .int .i64 ((k : Int) + (t1.size : Int))] _ _ rfl K1.out Try.underlying67 rfl (by kernel_rfl)) rfl ?_
    exact ⟨rfl, (Below.refl _ _).alloc (Nat.le_refl _) _⟩
end Go.Proofs.Ythojahknocageaa


/- The greedy pieces, in the program. -/
namespace Go.Proofs.Ythojahknocageaa
open Go.RowKit

def OwnPn (w : World) (S : Nat) (v : Value) (P : List PPiece) : Prop := w.ownsRow S 67 3 v P.length (pcells P)
theorem OwnPn.nil (w : World) (S : Nat) : OwnPn w S (.slice none 0 0) [] := World.ownsRow_nil _ _ _ _
theorem OwnPn.below {w w' : World} {S : Nat} {v : Value} {P : List PPiece} (h : OwnPn w S v P) (hb : Below w.heap.size w w') : OwnPn w' S v P :=
  World.ownsRow.kept (row := none) h ⟨hb.os, hb.tape, hb.output, hb.size, fun k hk _ => hb.block k hk⟩ (by cases hv : v.ownBlock <;> simp)
theorem OwnPn.at {w : World} {S : Nat} {v : Value} {P : List PPiece} (h : OwnPn w S v P) : PiecesAt w v P := by
  rcases h.2 with ⟨rfl, hn⟩ | ⟨g, cap, cur, rfl, _, _, h4, h5, _⟩
  · have : P = [] := List.length_eq_zero_iff.1 hn
    subst this
    exact ⟨none, 0, rfl, Nat.le_refl _, by omega, .inl rfl⟩
  · exact OwnPc.at (S := S) ⟨h, g, cap, rfl⟩
theorem OwnPn.isSlice {w : World} {S : Nat} {v : Value} {P : List PPiece} (h : OwnPn w S v P) : ∃ a n c, v = .slice a n c := by
  rcases h.2 with ⟨rfl, _⟩ | ⟨g, cap, cur, rfl, _⟩ <;> exact ⟨_, _, _, rfl⟩
theorem wpList_append_pn {ops : Array Oper} {rest : List Oper} {o : Oper} {a : Act} {w : World} {Q : Exit → Act → World → Prop} (hgd : o.guard = none) (s x : Operand)
    (ho : o.op = .call { callee := .builtin .append, args := #[s, x], argTypes := #[61, 61] }) (base g : Nat) {v : Value} {P : List PPiece} (p : PPiece) (hs : a.eval s = v) (hx : a.eval x = .slice (some ⟨g, 0, none⟩) 1 1)
    (h1 : OwnPn w base v P) (h2 : PieceAt w g 0 p) (hl : P.length ≤ 100000) (hbase : base ≤ w.heap.size)
    (h : ∀ v' w', OwnPn w' base v' (P ++ [p]) → w.grownBy w' v.ownBlock → wpList Try.prog ops Q rest (a.put o.dst v') w') : wpList Try.prog ops Q (o :: rest) a w := by
  obtain ⟨i0, hi, hz0, hz1, hz2⟩ := info_parts infoPiece
  refine wpList_append_own w hgd s x 61 ho base 67 i0 (.agg #[.int .i64 0, .int .i64 0, .int .i64 0]) 3 24 Try.underlying61 hi hz0 hz1 hz2 rfl (by decide) v P.length (pcells P) hs h1 ⟨g, 0, none⟩ 1 1 (pcell p) hx rfl ?_ ?_ (by unfold maxLen; omega) (by omega) hbase ?_
  · intro j u hj
    obtain ⟨c0, c1, c2⟩ := h2
    rw [Addr.add_lit]
    match j, hj with
    | 0, hj => rw [c0]; exact hj
    | 1, hj => rw [c1]; exact hj
    | 2, hj => rw [c2]; exact hj
  · intro u hu
    simp [pcell] at hu
    rcases hu with rfl | rfl | rfl <;> rfl
  · intro v' w' hown hgrow hnil
    refine h v' w' ?_ hgrow
    unfold OwnPn
    rw [List.length_append, ← pcells_snoc]
    exact hown

def bst (T : List PRule) (s : ByteArray) (k : Nat) : Int := lgTo T (rulesL T s k) (rulesL T s k).length
def pcG (T : List PRule) (s : ByteArray) (k : Nat) : PPiece := pcB T k (bst T s k)
def gpos (T : List PRule) (s : ByteArray) : Nat → Nat
  | 0 => 0
  | j + 1 => (pcG T s (gpos T s j)).t.toNat
def grL (T : List PRule) (s : ByteArray) : Nat → List PPiece
  | 0 => []
  | j + 1 => grL T s j ++ [pcG T s (gpos T s j)]
theorem grL_len (T : List PRule) (s : ByteArray) (j : Nat) : (grL T s j).length = j := by
  induction j with
  | zero => rfl
  | succ j ih => show (grL T s j ++ _).length = _; rw [List.length_append, ih]; rfl
theorem rulesTo_nn {T : List PRule} {s : ByteArray} {p : Int} : ∀ (k : Nat) {z : Int}, z ∈ rulesTo T s p k → 0 ≤ z ∧ z < k := by
  intro k
  induction k with
  | zero => intro z h; exact absurd h (by simp [rulesTo])
  | succ k ih =>
    intro z h
    rcases List.mem_append.1 h with h | h
    · have := ih h; omega
    · split at h
      · simp at h; omega
      · simp at h
theorem sz_small {T : List PRule} (h : ValidTb T) : ∀ k, (T.getD k noR).t.size ≤ 100 := by
  intro k
  by_cases hk : k < T.length
  · have := (h.2.1 k hk).1.2.1
    rw [wd_size] at this
    omega
  · rw [List.getD_eq_getElem?_getD, List.getElem?_eq_none (by omega), Option.getD_none]
    show noR.t.size ≤ 100
    decide
/-- the piece chosen at a place of the word goes on, and not beyond the word -/
theorem pcG_bd {T : List PRule} {s : ByteArray} (hv : ValidTb T) {k : Nat} (hk : k < s.size) : (bst T s k = -1 ∨ (0 ≤ bst T s k ∧ bst T s k < T.length)) ∧ (pcG T s k).f = k ∧ (k : Int) < (pcG T s k).t ∧ (pcG T s k).t ≤ s.size ∧ (pcG T s k).r = bst T s k := by
  have hb := lgTo_bst T s k
  unfold pcG pcB bst
  rcases hb with ⟨h1, h2⟩ | ⟨j, h1, hj, hA, h2⟩
  · rw [h1, if_pos rfl]
    exact ⟨.inl rfl, rfl, by simp only; omega, by simp only; omega, rfl⟩
  · rw [h1, if_neg (by omega)]
    have h3 := (hv.2.1 j hj).1.1
    rw [wd_size] at h3
    have h4 := hA.2.1
    have h5 : szR T (j : Int) = (T.getD j noR).t.size := by unfold szR; rw [Int.toNat_natCast]
    rw [h5]
    exact ⟨.inr ⟨by omega, by omega⟩, rfl, by simp only; omega, by simp only; omega, rfl⟩
def GreedyMade (T : List PRule) (s : ByteArray) (w : World) (e : Ending) (w' : World) : Prop :=
  ∃ v j, e = .returned v ∧ OwnPn w' w.heap.size v (grL T s j) ∧ (∀ i, i < j → gpos T s i < s.size) ∧ s.size ≤ gpos T s j ∧ j ≤ 16 ∧ Below w.heap.size w w'
end Go.Proofs.Ythojahknocageaa


/- GreedyPieces, in the program. -/
namespace Go.Proofs.Ythojahknocageaa
open Go.RowKit

theorem i_isWord_t (s : ByteArray) (b : Bool) (w : World) (hs : s.size ≤ 9223372036854775807) (hb : Hid (decide (WordB 16 s.data.toList) = b)) :
    Calls Try.prog 36 #[.string s] w fun e w' => e = .returned (.bool b) ∧ w = w' := by
  have := i_isWord s w hs
  rw [hb.out] at this
  exact this
end Go.Proofs.Ythojahknocageaa


/- The choices at a place: the first of them. -/
namespace Go.Proofs.Ythojahknocageaa
open Go.RowKit

/-- the first choice once the rules of more than m letters, and the first j rules of m letters, are there -/
def HdUp (T : List PRule) (s : ByteArray) (k m j : Nat) (P : List PPiece) : Prop :=
  (P = [] ∧ ∀ i, i < T.length → App (T.getD i noR) s (k : Int) → (T.getD i noR).t.size < m ∨ ((T.getD i noR).t.size = m ∧ j ≤ i)) ∨ ∃ R, P = pcG T s k :: R
theorem HdUp.start {T : List PRule} (hv : ValidTb T) (s : ByteArray) (k : Nat) : HdUp T s k 6 0 [] :=
  .inl ⟨rfl, fun i hi _ => by have := (hv.2.1 i hi).1.2.1; rw [wd_size] at this; omega⟩
theorem HdUp.add {T : List PRule} {s : ByteArray} {k m j : Nat} {P : List PPiece} (h : HdUp T s k m j P) (hj : j < T.length) (hA : App (T.getD j noR) s (k : Int)) (hm : (T.getD j noR).t.size = m) : HdUp T s k m (j + 1) (P ++ [⟨(j : Int), (k : Int), (k : Int) + (m : Int)⟩]) := by
  right
  rcases h with ⟨rfl, h⟩ | ⟨R, rfl⟩
  · refine ⟨[], ?_⟩
    have hb : bst T s k = (j : Int) := Bst.same (lgTo_bst T s k) (.inr ⟨j, rfl, hj, hA, fun i hi hi2 => by have := h i hi hi2; omega⟩)
    rw [List.nil_append, pcG, hb, pcB, if_neg (by omega), szR, Int.toNat_natCast, hm]
  · exact ⟨R ++ [⟨(j : Int), (k : Int), (k : Int) + (m : Int)⟩], rfl⟩
theorem HdUp.skip {T : List PRule} {s : ByteArray} {k m j : Nat} {P : List PPiece} (h : HdUp T s k m j P) (hn : ¬ ((T.getD j noR).t.size = m ∧ App (T.getD j noR) s (k : Int))) : HdUp T s k m (j + 1) P := by
  rcases h with ⟨rfl, h⟩ | h
  · refine .inl ⟨rfl, fun i hi hi2 => ?_⟩
    rcases h i hi hi2 with h1 | ⟨h1, h2⟩
    · exact .inl h1
    · by_cases hij : i = j
      · subst hij; exact absurd ⟨h1, hi2⟩ hn
      · exact .inr ⟨h1, by omega⟩
  · exact .inr h
theorem HdUp.down {T : List PRule} {s : ByteArray} {k m : Nat} {P : List PPiece} (h : HdUp T s k m T.length P) (hm : 0 < m) : HdUp T s k (m - 1) 0 P := by
  rcases h with ⟨rfl, h⟩ | h
  · refine .inl ⟨rfl, fun i hi hi2 => ?_⟩
    rcases h i hi hi2 with h1 | ⟨h1, h2⟩ <;> omega
  · exact .inr h
theorem HdUp.last {T : List PRule} (hv : ValidTb T) {s : ByteArray} {k : Nat} {P : List PPiece} (h : HdUp T s k 0 0 P) : ∃ R, P ++ [⟨-1, (k : Int), (k : Int) + 1⟩] = pcG T s k :: R := by
  rcases h with ⟨rfl, h⟩ | ⟨R, rfl⟩
  · refine ⟨[], ?_⟩
    have hb : bst T s k = -1 := Bst.same (lgTo_bst T s k) (.inl ⟨rfl, fun i hi hi2 => by
      have h1 := (hv.2.1 i hi).1.1
      rw [wd_size] at h1
      have := h i hi hi2
      omega⟩)
    rw [List.nil_append, pcG, hb, pcB, if_pos rfl]
  · exact ⟨_, rfl⟩

set_option maxHeartbeats 4000000 in
theorem choices_head (w : World) (g n c : Nat) (T : List PRule) (s : ByteArray) (k : Nat) (hx : TableAt w (.slice (some ⟨g, 0, none⟩) n c) T) (hn : T.length = n) (hv : Hid (ValidTb T)) (hk : k ≤ 100) :
    Calls Try.prog 71 #[.slice (some ⟨g, 0, none⟩) n c, .string s, .int .i64 k] w fun e w' => ∃ v P, e = .returned v ∧ OwnPc w' w.heap.size v P ∧ (∃ R, P = pcG T s k :: R) ∧ P.length ≤ 100 ∧ Below w.heap.size w w' := by
  have hn16 : n ≤ 16 := by have := hv.out.1; omega
  have HN := Lib.hid hn
  have HX := keptH hx
  have hO0 := OwnPc.made w w.heap.size (Nat.le_refl _)
  have hB0 : Below w.heap.size w (w.alloc (.cells #[] 67)) := (Below.refl _ _).alloc (Nat.le_refl _) _
  have HO0 := keptH hO0
  have HB0 := keptH hB0
  clear hx hn hO0 hB0
  go_enter Try.func71, Try.ntmps71
  go_wp2
  go_loopw [7, 8] (fun o m wr => ∃ (m' : Nat) (P : List PPiece), m' ≤ 6 ∧ m = .int .i64 m' ∧ OwnPc wr w.heap.size o P ∧ P.length + m' * 16 ≤ 96 ∧ Hid (HdUp T s k m' 0 P) ∧ Below w.heap.size w wr) (fun _ m _ => (intOf m).toNat)
  case atStart => exact ⟨6, [], by omega, rfl, HO0.out, by simp, HdUp.start hv.out s k, HB0.out⟩
  case round =>
    obtain ⟨m, P, hm, rfl, hO, hPl, hPc, hb⟩ := hrel
    have hsz := hb.size
    by_cases hm0 : 0 < m
    · have HP0 := keptH hPc
      have bm : (0 : Int) < (m : Int) := by omega
      have um : IntKind.i64.wrap ((m : Int) - 1) = (m : Int) - 1 := IntWalk.i64_in _ (by omega)
      go_wp2_with fail
      go_loopw [7, 9] (fun o i w2 => ∃ (j : Nat) (P' : List PPiece), j ≤ n ∧ i = .int .i64 j ∧ OwnPc w2 w.heap.size o P' ∧ P'.length ≤ P.length + j ∧ Hid (HdUp T s k m j P') ∧ Below w.heap.size w w2) (fun _ i _ => n - (intOf i).toNat)
      case atStart => exact ⟨0, P, by omega, rfl, hO, by omega, HP0.out, hb⟩
      case round =>
        clear hO hb hPc HP0
        obtain ⟨j, P', hj, rfl, hO, hPl', hPc, hb⟩ := hrel
        have hsz2 := hb.size
        by_cases hlt : j < n
        · have hru := (HX.out.below hb).ruleAt HN.out hlt
          have hvr := hv.out.2.1 j (by rw [HN.out]; exact hlt)
          obtain ⟨r, hr⟩ : ∃ r, T.getD j noR = r := ⟨_, rfl⟩
          rw [hr] at hru hvr
          have HRE := Lib.hid hr
          clear hr
          obtain ⟨t, ys, q⟩ := r
          obtain ⟨c0, ⟨u, c1, hu⟩, c2⟩ := hru
          have HU : Hid (IntsAt _ u ys) := hu
          obtain ⟨au, cu, rfl, _⟩ := hu
          simp only at c0 c1 c2
          have HVR := Lib.hid hvr
          clear hvr
          have HPc := keptH hPc
          have HB := keptH hb
          have HO := keptH hO
          clear hPc hb hO
          have b1 : (0 : Int) ≤ (j : Int) := by omega
          have b2 : (j : Int) < (n : Int) := by omega
          by_cases hts : t.size = m
          · have d1 : ((t.size : Int) == (m : Int)) = true := by simp; omega
            obtain ⟨b, hb⟩ : ∃ b, decide (App ⟨t, ys, q⟩ s (k : Int)) = b := ⟨_, rfl⟩
            have HBB := Lib.hid hb
            clear hb
            go_wp2_with fail
            refine (s_applies_v _ _ t ys q s k b HU.out HVR (by omega) HBB).mono ?_
            rintro e w2 ⟨rfl, hb2⟩
            have hO2 := HO.out.below hb2
            have hB2 := HB.out.trans (hb2.mono hsz2)
            have hs2 := hB2.size
            clear hb2 c0 c1 c2
            cases b with
            | true =>
              have u2 : IntKind.i64.wrap ((k : Int) + (m : Int)) = (k : Int) + (m : Int) := IntWalk.i64_in _ (by omega)
              have hA2 := pieceAt_alloc w2 ⟨(j : Int), (k : Int), (k : Int) + (m : Int)⟩
              have hO2a := hO2.below (Below.alloc (Below.refl _ _) (Nat.le_refl _) (.cells #[.int .i64 (j : Int), .int .i64 (k : Int), .int .i64 ((k : Int) + (m : Int))] 67))
              go_wp2_with (at_builtin; go_loud (refine wpList_append_piece rfl _ _ rfl w.heap.size w2.heap.size ⟨(j : Int), (k : Int), (k : Int) + (m : Int)⟩ rfl rfl hO2a hA2 (by omega) (by simp; omega) ?_))
              intro v3 w3 hO3 hg3
              have hB3 := grown_pc hB2 hs2 hO2 hg3
              have HB3 := keptH hB3
              have HO3 := keptH hO3
              have HP3 : Hid (HdUp T s k m (j + 1) (P' ++ [⟨(j : Int), (k : Int), (k : Int) + (m : Int)⟩])) := HPc.out.out.add (by rw [HN.out]; exact hlt) (by rw [HRE.out]; exact of_decide_eq_true HBB.out) (by rw [HRE.out]; exact hts)
              have hl3 : (P' ++ [(⟨(j : Int), (k : Int), (k : Int) + (m : Int)⟩ : PPiece)]).length ≤ P.length + (j + 1) := by simp; omega
              clear hO2 hB2 hA2 hO2a hO3 hB3 hg3
              go_wp2
              go_roundw
              case rel => exact ⟨j + 1, _, by omega, by go_num, HO3.out, hl3, HP3, HB3.out⟩
              case measure => simp [intOf]; omega
            | false =>
              have HB3 := keptH hB2
              have HO3 := keptH hO2
              have HP3 : Hid (HdUp T s k m (j + 1) P') := HPc.out.out.skip (fun h => by rw [HRE.out] at h; exact absurd h.2 (of_decide_eq_false HBB.out))
              clear hO2 hB2
              go_wp2
              go_roundw
              case rel => exact ⟨j + 1, P', by omega, by go_num, HO3.out, by omega, HP3, HB3.out⟩
              case measure => simp [intOf]; omega
          · have d1 : ((t.size : Int) == (m : Int)) = false := by simp; omega
            have HP3 : Hid (HdUp T s k m (j + 1) P') := HPc.out.out.skip (fun h => by rw [HRE.out] at h; exact hts h.1)
            go_wp2
            go_roundw
            case rel => exact ⟨j + 1, P', by omega, by go_num, HO.out, by omega, HP3, HB.out⟩
            case measure => simp [intOf]; omega
        · have HB3 := keptH hb
          have HO3 := keptH hO
          have HP3 : Hid (HdUp T s k (m - 1) 0 P') := HdUp.down (by rw [HN.out, show n = j from by omega]; exact hPc.out) hm0
          clear hb hO
          go_wp2
          go_roundw
          case rel => exact ⟨m - 1, P', by omega, by go_num, HO3.out, by omega, HP3, HB3.out⟩
          case measure => simp [intOf]; omega
    · obtain rfl : m = 0 := by omega
      have hl : P.length ≤ 96 := by omega
      have HB2 := keptH hb
      have HA2 := keptH (pieceAt_alloc wr ⟨-1, (k : Int), (k : Int) + 1⟩)
      have hO2a := hO.below (Below.alloc (Below.refl _ _) (Nat.le_refl _) (.cells #[.int .i64 (-1), .int .i64 (k : Int), .int .i64 ((k : Int) + 1)] 67))
      have HO2 := keptH hO
      have HP0 := keptH hPc
      clear hb hO hPc hPl hm hm0
      go_wp2_with (at_builtin; go_loud (refine wpList_append_piece rfl _ _ rfl w.heap.size wr.heap.size ⟨-1, (k : Int), (k : Int) + 1⟩ rfl rfl hO2a HA2.out (by omega) (by simp; omega) ?_))
      intro v3 w3 hO3 hg3
      have hB3 := grown_pc HB2.out hsz HO2.out hg3
      have HB3 := keptH hB3
      have HO3 := keptH hO3
      have HP3 := keptH (HdUp.last hv.out HP0.out.out)
      clear hO3 hB3 hg3 hO2a
      go_wp2
      go_ret
      exact ⟨_, _, rfl, HO3.out, HP3.out, by simp; omega, HB3.out⟩
end Go.Proofs.Ythojahknocageaa


/- GreedyPieces, in the model. -/
namespace Go.Proofs.Ythojahknocageaa
open Go.RowKit

theorem s_validWord_t (s : ByteArray) (b : Bool) (w : World) (hs : s.size ≤ 9223372036854775807) (hb : Hid (decide (WordB 16 s.data.toList) = b)) :
    Calls Try.prog 39 #[.string s] w fun e w' => e = .returned (.bool b) ∧ w = w' := by
  have := s_validWord s w hs
  rw [hb.out] at this
  exact this
/-- both runs end at the same piece -/
theorem greedy_same {T : List PRule} {s : ByteArray} {i j : Nat} (hi : ∀ m, m < i → gpos T s m < s.size) (hi2 : s.size ≤ gpos T s i) (hj : ∀ m, m < j → gpos T s m < s.size) (hj2 : s.size ≤ gpos T s j) : i = j := by
  rcases Nat.lt_trichotomy i j with h | h | h
  · have := hj i h; omega
  · exact h
  · have := hi j h; omega
end Go.Proofs.Ythojahknocageaa


/- Greedy pieces: both sides for what is valid and what is not. -/
namespace Go.Proofs.Ythojahknocageaa
open Go.RowKit

def PcsMade (P : List PPiece) (w : World) (e : Ending) (w' : World) : Prop := ∃ v, e = .returned v ∧ OwnPn w' w.heap.size v P ∧ Below w.heap.size w w' ∧ ∃ a n c, v = .slice a n c
theorem greedy_end {T : List PRule} (hv : ValidTb T) (s : ByteArray) : ∃ j, (∀ i, i < j → gpos T s i < s.size) ∧ s.size ≤ gpos T s j ∧ j ≤ s.size := by
  have key : ∀ m, (∃ j, j ≤ m ∧ (∀ i, i < j → gpos T s i < s.size) ∧ s.size ≤ gpos T s j) ∨ (∀ i, i ≤ m → gpos T s i < s.size ∧ i ≤ gpos T s i) := by
    intro m
    induction m with
    | zero =>
      by_cases h : 0 < s.size
      · right; intro i hi
        obtain rfl : i = 0 := by omega
        exact ⟨h, Nat.le_refl _⟩
      · left; exact ⟨0, Nat.le_refl _, fun i hi => by omega, by omega⟩
    | succ m ih =>
      rcases ih with ⟨j, h1, h2, h3⟩ | ih
      · exact .inl ⟨j, by omega, h2, h3⟩
      · obtain ⟨h1, h2⟩ := ih m (Nat.le_refl _)
        obtain ⟨_, _, p3, p4, _⟩ := pcG_bd hv h1
        have hg : gpos T s (m + 1) = (pcG T s (gpos T s m)).t.toNat := rfl
        by_cases h : gpos T s (m + 1) < s.size
        · right; intro i hi
          by_cases him : i = m + 1
          · subst him; exact ⟨h, by omega⟩
          · exact ih i (by omega)
        · left; exact ⟨m + 1, Nat.le_refl _, fun i hi => (ih i (by omega)).1, by omega⟩
  rcases key s.size with ⟨j, h1, h2, h3⟩ | h
  · exact ⟨j, h2, h3, h1⟩
  · have := h s.size (Nat.le_refl _); omega
theorem made_of_greedy {T : List PRule} {s : ByteArray} {j : Nat} {w w' : World} {e : Ending} (h : GreedyMade T s w e w') (h1 : ∀ i, i < j → gpos T s i < s.size) (h2 : s.size ≤ gpos T s j) : PcsMade (grL T s j) w e w' := by
  obtain ⟨v, i, rfl, hO, h3, h4, _, hb⟩ := h
  obtain rfl := greedy_same h3 h4 h1 h2
  exact ⟨v, rfl, hO, hb, hO.isSlice⟩
end Go.Proofs.Ythojahknocageaa


/- Marks in a row of pieces that a call has made, and whether they are held. -/
namespace Go.Proofs.Ythojahknocageaa
open Go.RowKit

theorem pcells_set3 : ∀ (P : List PPiece) (i : Nat) (_ : i < P.length) (x y z : Int), (((pcells P).set (i * 3) (.int .i64 x)).set (i * 3 + 1) (.int .i64 y)).set (i * 3 + 2) (.int .i64 z) = pcells (P.set i ⟨x, y, z⟩) := by
  intro P
  induction P with
  | nil => intro i h; simp at h
  | cons q P ih =>
    intro i h x y z
    have hl : (pcell q).length = 3 := rfl
    cases i with
    | zero => rfl
    | succ i =>
      have h' : i < P.length := by simpa using h
      show (((pcell q ++ pcells P).set ((i + 1) * 3) _).set ((i + 1) * 3 + 1) _).set ((i + 1) * 3 + 2) _ = _
      rw [List.set_append_right _ _ (by rw [hl]; omega), List.set_append_right _ _ (by rw [hl]; omega), List.set_append_right _ _ (by rw [hl]; omega), hl, show (i + 1) * 3 - 3 = i * 3 from by omega, show (i + 1) * 3 + 1 - 3 = i * 3 + 1 from by omega, show (i + 1) * 3 + 2 - 3 = i * 3 + 2 from by omega, ih i h' x y z]
      rfl
theorem OwnPn.len {w : World} {S n c : Nat} {a : Option Addr} {P : List PPiece} (h : OwnPn w S (.slice a n c) P) : P.length = n := by
  rcases h.2 with ⟨e, hn⟩ | ⟨g, cap, cur, e, _⟩
  · injection e with _ e2 _; rw [hn, e2]
  · injection e with _ e2 _; exact e2.symm
theorem OwnPn.addr {w : World} {S n c : Nat} {a : Option Addr} {P : List PPiece} (h : OwnPn w S (.slice a n c) P) (hn : 0 < n) : ∃ g, a = some ⟨g, 0, none⟩ ∧ S ≤ g ∧ g < w.heap.size := by
  have hl := h.len
  rcases h.2 with ⟨e, h0⟩ | ⟨g, cap, cur, e, h1, h2, _⟩
  · omega
  · have e' := e
    injection e with e1 _ _
    subst e1
    exact ⟨g, rfl, World.ownsRow.lt h g rfl⟩
theorem OwnPn.set3 {w : World} {S g n c : Nat} {P : List PPiece} (h : OwnPn w S (.slice (some ⟨g, 0, none⟩) n c) P) {i : Nat} (hi : i < n) (x y z : Int) :
    OwnPn (((w.setCell ⟨g, i * 3, none⟩ (.int .i64 x)).setCell ⟨g, i * 3 + 1, none⟩ (.int .i64 y)).setCell ⟨g, i * 3 + 2, none⟩ (.int .i64 z)) S (.slice (some ⟨g, 0, none⟩) n c) (P.set i ⟨x, y, z⟩) := by
  have hl := h.len
  subst hl
  have := (World.ownsRow.stored (World.ownsRow.stored (World.ownsRow.stored h (i * 3) (.int .i64 x)).1 (i * 3 + 1) (.int .i64 y)).1 (i * 3 + 2) (.int .i64 z)).1
  rw [pcells_set3 P i hi x y z] at this
  unfold OwnPn
  rw [List.length_set]
  exact this
theorem OwnPn.cell3 {w : World} {S g n c : Nat} {P : List PPiece} (h : OwnPn w S (.slice (some ⟨g, 0, none⟩) n c) P) {i : Nat} (hi : i < n) :
    w.cell? ⟨g, i * 3, none⟩ = some (.int .i64 (P.getD i noP).r) ∧ w.cell? ⟨g, i * 3 + 1, none⟩ = some (.int .i64 (P.getD i noP).f) ∧ w.cell? ⟨g, i * 3 + 2, none⟩ = some (.int .i64 (P.getD i noP).t) ∧ ∀ j, w.frozen? ⟨g, j, none⟩ = false := by
  have hl := h.len
  subst hl
  exact OwnPc.cell3 (S := S) ⟨h, g, c, rfl⟩ hi
def mkP (k : Nat) : PPiece := ⟨1 + 3 * (k : Int), 2 + 3 * (k : Int), 3 + 3 * (k : Int)⟩
def mkL (P : List PPiece) : Nat → List PPiece
  | 0 => P
  | k + 1 => (mkL P k).set k (mkP k)
theorem mkL_len (P : List PPiece) (k : Nat) : (mkL P k).length = P.length := by
  induction k with
  | zero => rfl
  | succ k ih => show ((mkL P k).set k _).length = _; rw [List.length_set, ih]
theorem mkL_at (P : List PPiece) : ∀ k, k ≤ P.length → ∀ i, i < k → (mkL P k).getD i noP = mkP i := by
  intro k
  induction k with
  | zero => intro _ i hi; omega
  | succ k ih =>
    intro hk i hi
    show ((mkL P k).set k (mkP k)).getD i noP = _
    rw [List.getD_eq_getElem?_getD, List.getElem?_set]
    by_cases hik : k = i
    · subst hik
      rw [if_pos rfl, if_pos (by rw [mkL_len]; omega), Option.getD_some]
    · rw [if_neg hik, ← List.getD_eq_getElem?_getD]
      exact ih (by omega) i (by omega)
end Go.Proofs.Ythojahknocageaa


/- The exact law of GreedyPieces: its walk. -/
namespace Go.Proofs.Ythojahknocageaa
open Go.RowKit

theorem OwnPn.of_block {w w' : World} {base : Nat} {v : Value} {P : List PPiece} (h : OwnPn w base v P) (hk : ∀ k, v.ownBlock = some k → w'.heap[k]? = w.heap[k]?) : OwnPn w' base v P := by
  rcases h with ⟨h0, ⟨hv, hn⟩ | ⟨g, cap, cur, hv, hb, hg, h1, h2, h3, h4⟩⟩
  · exact ⟨h0, .inl ⟨hv, hn⟩⟩
  · exact ⟨h0, .inr ⟨g, cap, cur, hv, hb, (hk g (by rw [hv]; rfl)).trans hg, h1, h2, h3, h4⟩⟩
theorem OwnPn.mid {g B base : Nat} {w w' : World} {v : Value} {P : List PPiece} (h : OwnPn w base v P) (k : Mid g B w w') (hk : ∀ b, v.ownBlock = some b → b < g ∨ B ≤ b) : OwnPn w' base v P :=
  h.of_block fun b hb => k.2.2.2.2 b (World.ownsRow.lt h b hb).2 (hk b hb)
end Go.Proofs.Ythojahknocageaa

