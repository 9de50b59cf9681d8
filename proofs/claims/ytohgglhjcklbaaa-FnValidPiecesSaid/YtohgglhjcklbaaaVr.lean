
/- Pieces that a draw has made: what it owns; the choices at a place. -/
import Derived.Test.YtohgglhjcklbaaaDy
import Derived.Test.YtohgglhjcklbaaaPw
namespace Go.Proofs.Ytohgglhjcklbaaa
open Go.RowKit

def pcell (p : PPiece) : List Value := [.int .i64 p.r, .int .i64 p.f, .int .i64 p.t]
def pcells (P : List PPiece) : List Value := P.flatMap pcell
theorem pcells_len (P : List PPiece) : (pcells P).length = P.length * 3 := by
  induction P with
  | nil => rfl
  | cons q P ih => simp [pcells, pcell] at ih ⊢; omega
theorem pcells_at : ∀ (P : List PPiece) (i : Nat) (_ : i < P.length), (pcells P)[i * 3]? = some (.int .i64 (P.getD i noP).r) ∧ (pcells P)[i * 3 + 1]? = some (.int .i64 (P.getD i noP).f) ∧ (pcells P)[i * 3 + 2]? = some (.int .i64 (P.getD i noP).t) := by
  intro P
  induction P with
  | nil => intro i h; simp at h
  | cons q P ih =>
    intro i h
    have hc : pcells (q :: P) = pcell q ++ pcells P := rfl
    have hl : (pcell q).length = 3 := rfl
    cases i with
    | zero => rw [hc]; exact ⟨rfl, rfl, rfl⟩
    | succ i =>
      have h' : i < P.length := by simpa using h
      obtain ⟨e0, e1, e2⟩ := ih i h'
      have hg : (q :: P).getD (i + 1) noP = P.getD i noP := by simp [List.getD_eq_getElem?_getD]
      rw [hc, hg]
      refine ⟨?_, ?_, ?_⟩
      · rw [List.getElem?_append_right (by rw [hl]; omega), hl, show (i + 1) * 3 - 3 = i * 3 from by omega, e0]
      · rw [List.getElem?_append_right (by rw [hl]; omega), hl, show (i + 1) * 3 + 1 - 3 = i * 3 + 1 from by omega, e1]
      · rw [List.getElem?_append_right (by rw [hl]; omega), hl, show (i + 1) * 3 + 2 - 3 = i * 3 + 2 from by omega, e2]
theorem pcells_snoc (P : List PPiece) (p : PPiece) : pcells P ++ pcell p = pcells (P ++ [p]) := by simp [pcells]
/-- the slice v owns the row of the pieces, behind S -/
def OwnPc (w : World) (S : Nat) (v : Value) (P : List PPiece) : Prop :=
  w.ownsRow S 59 3 v P.length (pcells P) ∧ ∃ g cap, v = .slice (some ⟨g, 0, none⟩) P.length cap
theorem OwnPc.at {w : World} {S : Nat} {v : Value} {P : List PPiece} (h : OwnPc w S v P) : PiecesAt w v P := by
  obtain ⟨h1, g, cap, rfl⟩ := h
  have hc : ∃ c', (Value.slice (some ⟨g, 0, none⟩) P.length cap) = .slice (some ⟨g, 0, none⟩) P.length c' ∧ P.length ≤ c' ∧ c' ≤ maxLen := by
    rcases h1.2 with ⟨h3, _⟩ | ⟨g', c', cur, h3, _, _, h4, h5, _⟩
    · simp at h3
    · injection h3 with e1 e2 e3
      exact ⟨c', by rw [e3], h4, h5⟩
  obtain ⟨c', he, hle, hmx⟩ := hc
  injection he with _ _ hcc
  subst hcc
  refine ⟨_, cap, rfl, hle, by unfold maxLen at hmx; exact hmx, .inr ⟨g, 0, rfl, fun i hi => ?_⟩⟩
  rw [Nat.zero_add]
  obtain ⟨e0, e1, e2⟩ := pcells_at P i hi
  exact ⟨(h1.cellAt (i * 3) (by omega)).trans e0, (h1.cellAt (i * 3 + 1) (by omega)).trans e1, (h1.cellAt (i * 3 + 2) (by omega)).trans e2⟩
theorem OwnPc.below {w w' : World} {S : Nat} {v : Value} {P : List PPiece} (h : OwnPc w S v P) (hb : Below w.heap.size w w') : OwnPc w' S v P :=
  ⟨h.1.kept (row := none) ⟨hb.os, hb.tape, hb.output, hb.size, fun k hk _ => hb.block k hk⟩ (by cases hv : v.ownBlock <;> simp), h.2⟩
theorem OwnPc.overR {w w' : World} {S R : Nat} {v : Value} {P : List PPiece} (h : OwnPc w S v P) (hg : w.grownBy w' (some R)) (hRS : R < S) : OwnPc w' S v P := by
  refine ⟨h.1.kept hg ?_, h.2⟩
  cases hv : v.ownBlock with
  | none => exact .inl rfl
  | some k => refine .inr fun e => ?_; injection e with e; have := (h.1.lt k hv).1; omega
theorem OwnPc.made (w : World) (S : Nat) (hS : S ≤ w.heap.size) : OwnPc (w.alloc (.cells #[] 59)) S (.slice (some ⟨w.heap.size, 0, none⟩) 0 0) [] :=
  ⟨World.ownsRow_made w #[] 0 hS (by unfold maxLen; omega) rfl, _, 0, rfl⟩
theorem pieceAt_alloc (w : World) (p : PPiece) : PieceAt (w.alloc (.cells #[.int .i64 p.r, .int .i64 p.f, .int .i64 p.t] 59)) w.heap.size 0 p :=
  ⟨by rw [cell_of_row _ w.heap.size _ _ _ _ (heap_alloc_new w _)]; rfl, by rw [cell_of_row _ w.heap.size _ _ _ _ (heap_alloc_new w _)]; rfl, by rw [cell_of_row _ w.heap.size _ _ _ _ (heap_alloc_new w _)]; rfl⟩
theorem wpList_append_piece {ops : Array Oper} {rest : List Oper} {o : Oper} {a : Act} {w : World} {Q : Exit → Act → World → Prop} (hgd : o.guard = none) (s x : Operand)
    (ho : o.op = .call { callee := .builtin .append, args := #[s, x], argTypes := #[52, 52] }) (base g : Nat) {v : Value} {P : List PPiece} (p : PPiece) (hs : a.eval s = v) (hx : a.eval x = .slice (some ⟨g, 0, none⟩) 1 1)
    (h1 : OwnPc w base v P) (h2 : PieceAt w g 0 p) (hl : P.length ≤ 100000) (hbase : base ≤ w.heap.size)
    (h : ∀ v' w', OwnPc w' base v' (P ++ [p]) → w.grownBy w' v.ownBlock → wpList Try.prog ops Q rest (a.put o.dst v') w') : wpList Try.prog ops Q (o :: rest) a w := by
  obtain ⟨i0, hi, hz0, hz1, hz2⟩ := info_parts infoPiece
  refine wpList_append_own w hgd s x 52 ho base 59 i0 (.agg #[.int .i64 0, .int .i64 0, .int .i64 0]) 3 24 Try.underlying52 hi hz0 hz1 hz2 rfl (by decide) v P.length (pcells P) hs h1.1 ⟨g, 0, none⟩ 1 1 (pcell p) hx rfl ?_ ?_ (by unfold maxLen; omega) (by omega) hbase ?_
  · intro j u hj
    obtain ⟨c0, c1, c2⟩ := h2
    rw [Addr.add_lit]
    match j, hj with
    | 0, hj => rw [c0]; exact hj
    | 1, hj => rw [c1]; exact hj
    | 2, hj => rw [c2]; exact hj
  · intro u hu
    simp [pcell] at hu
    rcases hu with rfl | rfl | rfl <;> rfl
  · intro v' w' hown hgrow hnil
    refine h v' w' ⟨?_, ?_⟩ hgrow
    · rw [List.length_append, ← pcells_snoc]; exact hown
    · rw [List.length_append]
      rcases hown.2 with ⟨_, e⟩ | ⟨g', c', cur, e, _⟩
      · simp at e
      · exact ⟨g', c', e⟩
theorem pcells_setR : ∀ (P : List PPiece) (i : Nat) (_ : i < P.length) (z : Int), (pcells P).set (i * 3) (.int .i64 z) = pcells (P.set i ⟨z, (P.getD i noP).f, (P.getD i noP).t⟩) := by
  intro P
  induction P with
  | nil => intro i h; simp at h
  | cons q P ih =>
    intro i h z
    have hl : (pcell q).length = 3 := rfl
    cases i with
    | zero => rfl
    | succ i =>
      have h' : i < P.length := by simpa using h
      have hg : (q :: P).getD (i + 1) noP = P.getD i noP := by simp [List.getD_eq_getElem?_getD]
      show (pcell q ++ pcells P).set ((i + 1) * 3) _ = _
      rw [hg, List.set_append_right _ _ (by rw [hl]; omega), hl, show (i + 1) * 3 - 3 = i * 3 from by omega, ih i h' z]
      rfl
theorem pcells_setT : ∀ (P : List PPiece) (i : Nat) (_ : i < P.length) (z : Int), (pcells P).set (i * 3 + 2) (.int .i64 z) = pcells (P.set i ⟨(P.getD i noP).r, (P.getD i noP).f, z⟩) := by
  intro P
  induction P with
  | nil => intro i h; simp at h
  | cons q P ih =>
    intro i h z
    have hl : (pcell q).length = 3 := rfl
    cases i with
    | zero => rfl
    | succ i =>
      have h' : i < P.length := by simpa using h
      have hg : (q :: P).getD (i + 1) noP = P.getD i noP := by simp [List.getD_eq_getElem?_getD]
      show (pcell q ++ pcells P).set ((i + 1) * 3 + 2) _ = _
      rw [hg, List.set_append_right _ _ (by rw [hl]; omega), hl, show (i + 1) * 3 + 2 - 3 = i * 3 + 2 from by omega, ih i h' z]
      rfl
theorem OwnPc.setR {w : World} {S g n cap : Nat} {P : List PPiece} (h : OwnPc w S (.slice (some ⟨g, 0, none⟩) n cap) P) {i : Nat} (hi : i < P.length) (z : Int) :
    OwnPc (w.setCell ⟨g, i * 3, none⟩ (.int .i64 z)) S (.slice (some ⟨g, 0, none⟩) n cap) (P.set i ⟨z, (P.getD i noP).f, (P.getD i noP).t⟩) := by
  obtain ⟨h1, g', cap', e⟩ := h
  injection e with e1 e2 e3
  subst e2
  have := (h1.stored (i * 3) (.int .i64 z)).1
  rw [pcells_setR P i hi z] at this
  exact ⟨by rw [List.length_set]; exact this, g, cap, by rw [List.length_set]⟩
theorem OwnPc.setT {w : World} {S g n cap : Nat} {P : List PPiece} (h : OwnPc w S (.slice (some ⟨g, 0, none⟩) n cap) P) {i : Nat} (hi : i < P.length) (z : Int) :
    OwnPc (w.setCell ⟨g, i * 3 + 2, none⟩ (.int .i64 z)) S (.slice (some ⟨g, 0, none⟩) n cap) (P.set i ⟨(P.getD i noP).r, (P.getD i noP).f, z⟩) := by
  obtain ⟨h1, g', cap', e⟩ := h
  injection e with e1 e2 e3
  subst e2
  have := (h1.stored (i * 3 + 2) (.int .i64 z)).1
  rw [pcells_setT P i hi z] at this
  exact ⟨by rw [List.length_set]; exact this, g, cap, by rw [List.length_set]⟩
theorem OwnPc.cell3 {w : World} {S g n cap : Nat} {P : List PPiece} (h : OwnPc w S (.slice (some ⟨g, 0, none⟩) n cap) P) {i : Nat} (hi : i < P.length) :
    w.cell? ⟨g, i * 3, none⟩ = some (.int .i64 (P.getD i noP).r) ∧ w.cell? ⟨g, i * 3 + 1, none⟩ = some (.int .i64 (P.getD i noP).f) ∧ w.cell? ⟨g, i * 3 + 2, none⟩ = some (.int .i64 (P.getD i noP).t) ∧ ∀ j, w.frozen? ⟨g, j, none⟩ = false := by
  obtain ⟨h1, g', cap', e⟩ := h
  injection e with e1 e2 e3
  subst e2
  obtain ⟨f0, f1, f2⟩ := pcells_at P i hi
  exact ⟨(h1.cellAt _ (by omega)).trans f0, (h1.cellAt _ (by omega)).trans f1, (h1.cellAt _ (by omega)).trans f2, fun j => h1.frozenAt j⟩
theorem PiecesAt.takeN {w : World} {g n c k : Nat} {P : List PPiece} (h : PiecesAt w (.slice (some ⟨g, 0, none⟩) n c) P) (hn : P.length = n) (hk : k ≤ n) : PiecesAt w (.slice (some ⟨g, 0, none⟩) k c) (P.take k) := by
  obtain ⟨a, cp, e, x1, x2, x3⟩ := h
  injection e with e1 e2 e3
  subst e1 e3
  have hl : (P.take k).length = k := by simp; omega
  refine ⟨_, c, by rw [hl], by omega, x2, ?_⟩
  rcases x3 with rfl | ⟨g', off, e, x3⟩
  · exact .inl (by simp)
  · refine .inr ⟨g', off, e, fun i hi => ?_⟩
    rw [List.getD_eq_getElem?_getD, List.getElem?_take, if_pos (by omega), ← List.getD_eq_getElem?_getD]
    exact x3 i (by omega)
theorem grown_pc {B : Nat} {w wr w' : World} {v : Value} {P : List PPiece} {o : Obj} (hb : Below B w wr) (hs : B ≤ wr.heap.size) (ho : OwnPc wr B v P) (hg : (wr.alloc o).grownBy w' v.ownBlock) : Below B w w' :=
  (hb.alloc hs o).grown hg (by have h := (World.grownBy_alloc wr o none).size; omega) (fun k hk => (ho.1.lt k hk).1)

theorem TableAt.ruleAt {w : World} {g n c k : Nat} {T : List PRule} (h : TableAt w (.slice (some ⟨g, 0, none⟩) n c) T) (hn : T.length = n) (hk : k < n) : RuleAt w g (k * 3) (T.getD k noR) := by
  obtain ⟨a, cp, e, x1, x2, x3⟩ := h
  injection e with e1 e2 e3
  rcases x3 with rfl | ⟨g', off, e, x3⟩
  · simp at hn; omega
  · rw [e] at e1
    injection e1 with e1
    injection e1 with e1 e4 _
    subst e1 e4
    have := x3 k (by omega)
    rw [Nat.zero_add] at this
    exact this
/-- a piece that may come at a place -/
def PcOf (k : Nat) (p : PPiece) : Prop := -1 ≤ p.r ∧ p.r ≤ 16 ∧ p.f = (k : Int) ∧ (k : Int) + 1 ≤ p.t ∧ p.t ≤ (k : Int) + 6
set_option maxHeartbeats 4000000 in
theorem choices_any (w : World) (g n c : Nat) (T : List PRule) (s : ByteArray) (k : Nat) (hx : TableAt w (.slice (some ⟨g, 0, none⟩) n c) T) (hn : T.length = n) (hv : Hid (ValidTb T)) (hk : k ≤ 100) :
    Calls Try.prog 92 #[.slice (some ⟨g, 0, none⟩) n c, .string s, .int .i64 k] w fun e w' => ∃ v P, e = .returned v ∧ OwnPc w' w.heap.size v P ∧ 1 ≤ P.length ∧ P.length ≤ 100 ∧ Hid (∀ p ∈ P, PcOf k p) ∧ Below w.heap.size w w' := by
  have hn16 : n ≤ 16 := by have := hv.out.1; omega
  have HN := Lib.hid hn
  have HX := keptH hx
  have hO0 := OwnPc.made w w.heap.size (Nat.le_refl _)
  have hB0 : Below w.heap.size w (w.alloc (.cells #[] 59)) := (Below.refl _ _).alloc (Nat.le_refl _) _
  have HO0 := keptH hO0
  have HB0 := keptH hB0
  clear hx hn hO0 hB0
  go_enter Try.func92, Try.ntmps92
  go_wp2
  go_loopw [7, 8] (fun o m wr => ∃ (m' : Nat) (P : List PPiece), m' ≤ 6 ∧ m = .int .i64 m' ∧ OwnPc wr w.heap.size o P ∧ P.length + m' * 16 ≤ 96 ∧ Hid (∀ p ∈ P, PcOf k p) ∧ Below w.heap.size w wr) (fun _ m _ => (intOf m).toNat)
  case atStart => exact ⟨6, [], by omega, rfl, HO0.out, by simp, fun p hp => absurd hp (by simp), HB0.out⟩
  case round =>
    obtain ⟨m, P, hm, rfl, hO, hPl, hPc, hb⟩ := hrel
    have hsz := hb.size
    by_cases hm0 : 0 < m
    · have HP0 := keptH hPc
      have bm : (0 : Int) < (m : Int) := by omega
      have um : IntKind.i64.wrap ((m : Int) - 1) = (m : Int) - 1 := IntWalk.i64_in _ (by omega)
      go_wp2_with fail
      go_loopw [7, 9] (fun o i w2 => ∃ (j : Nat) (P' : List PPiece), j ≤ n ∧ i = .int .i64 j ∧ OwnPc w2 w.heap.size o P' ∧ P'.length ≤ P.length + j ∧ Hid (∀ p ∈ P', PcOf k p) ∧ Below w.heap.size w w2) (fun _ i _ => n - (intOf i).toNat)
      case atStart => exact ⟨0, P, by omega, rfl, hO, by omega, HP0.out, hb⟩
      case round =>
        clear hO hb hPc HP0
        obtain ⟨j, P', hj, rfl, hO, hPl', hPc, hb⟩ := hrel
        have hsz2 := hb.size
        by_cases hlt : j < n
        · have hru := (HX.out.below hb).ruleAt HN.out hlt
          have hvr := hv.out.2.1 j (by rw [HN.out]; exact hlt)
          obtain ⟨r, hr⟩ : ∃ r, T.getD j noR = r := ⟨_, rfl⟩
          rw [hr] at hru hvr
          clear hr
          obtain ⟨t, ys, q⟩ := r
          obtain ⟨c0, ⟨u, c1, hu⟩, c2⟩ := hru
          have HU : Hid (IntsAt _ u ys) := hu
          obtain ⟨au, cu, rfl, _⟩ := hu
          simp only at c0 c1 c2
          have HVR := Lib.hid hvr
          clear hvr
          have HPc := keptH hPc
          have HB := keptH hb
          have HO := keptH hO
          clear hPc hb hO
          have b1 : (0 : Int) ≤ (j : Int) := by omega
          have b2 : (j : Int) < (n : Int) := by omega
          by_cases hts : t.size = m
          · have d1 : ((t.size : Int) == (m : Int)) = true := by simp; omega
            obtain ⟨b, hb⟩ : ∃ b, decide (App ⟨t, ys, q⟩ s (k : Int)) = b := ⟨_, rfl⟩
            have HBB := Lib.hid hb
            clear hb
            go_wp2_with fail
            refine (s_applies_v _ _ t ys q s k b HU.out HVR (by omega) HBB).mono ?_
            rintro e w2 ⟨rfl, hb2⟩
            have hO2 := HO.out.below hb2
            have hB2 := HB.out.trans (hb2.mono hsz2)
            have hs2 := hB2.size
            clear hb2 c0 c1 c2
            cases b with
            | true =>
              have u2 : IntKind.i64.wrap ((k : Int) + (m : Int)) = (k : Int) + (m : Int) := IntWalk.i64_in _ (by omega)
              have hA2 := pieceAt_alloc w2 ⟨(j : Int), (k : Int), (k : Int) + (m : Int)⟩
              have hO2a := hO2.below (Below.alloc (Below.refl _ _) (Nat.le_refl _) (.cells #[.int .i64 (j : Int), .int .i64 (k : Int), .int .i64 ((k : Int) + (m : Int))] 59))
              go_wp2_with (at_builtin; go_loud (refine wpList_append_piece rfl _ _ rfl w.heap.size w2.heap.size ⟨(j : Int), (k : Int), (k : Int) + (m : Int)⟩ rfl rfl hO2a hA2 (by omega) (by simp; omega) ?_))
              intro v3 w3 hO3 hg3
              have hB3 := grown_pc hB2 hs2 hO2 hg3
              have HB3 := keptH hB3
              have HO3 := keptH hO3
              have HP3 : Hid (∀ p ∈ P' ++ [⟨(j : Int), (k : Int), (k : Int) + (m : Int)⟩], PcOf k p) := by
                intro p hp
                rcases List.mem_append.1 hp with hp | hp
                · exact HPc.out p hp
                · simp at hp
                  subst hp
                  exact ⟨by simp only; omega, by simp only; omega, rfl, by simp only; omega, by simp only; omega⟩
              have hl3 : (P' ++ [(⟨(j : Int), (k : Int), (k : Int) + (m : Int)⟩ : PPiece)]).length ≤ P.length + (j + 1) := by simp; omega
              clear hO2 hB2 hA2 hO2a hO3 hB3 hg3
              go_wp2
              go_roundw
              case rel => exact ⟨j + 1, _, by omega, by go_num, HO3.out, hl3, HP3, HB3.out⟩
              case measure => simp [intOf]; omega
            | false =>
              have HB3 := keptH hB2
              have HO3 := keptH hO2
              clear hO2 hB2
              go_wp2
              go_roundw
              case rel => exact ⟨j + 1, P', by omega, by go_num, HO3.out, by omega, HPc, HB3.out⟩
              case measure => simp [intOf]; omega
          · have d1 : ((t.size : Int) == (m : Int)) = false := by simp; omega
            go_wp2
            go_roundw
            case rel => exact ⟨j + 1, P', by omega, by go_num, HO.out, by omega, HPc, HB.out⟩
            case measure => simp [intOf]; omega
        · have HB3 := keptH hb
          have HO3 := keptH hO
          clear hb hO
          go_wp2
          go_roundw
          case rel => exact ⟨m - 1, P', by omega, by go_num, HO3.out, by omega, hPc, HB3.out⟩
          case measure => simp [intOf]; omega
    · obtain rfl : m = 0 := by omega
      have hl : P.length ≤ 96 := by omega
      have HB2 := keptH hb
      have HA2 := keptH (pieceAt_alloc wr ⟨-1, (k : Int), (k : Int) + 1⟩)
      have hO2a := hO.below (Below.alloc (Below.refl _ _) (Nat.le_refl _) (.cells #[.int .i64 (-1), .int .i64 (k : Int), .int .i64 ((k : Int) + 1)] 59))
      have HO2 := keptH hO
      have HP0 := keptH hPc
      clear hb hO hPc hPl hm hm0
      go_wp2_with (at_builtin; go_loud (refine wpList_append_piece rfl _ _ rfl w.heap.size wr.heap.size ⟨-1, (k : Int), (k : Int) + 1⟩ rfl rfl hO2a HA2.out (by omega) (by simp; omega) ?_))
      intro v3 w3 hO3 hg3
      have hB3 := grown_pc HB2.out hsz HO2.out hg3
      have HB3 := keptH hB3
      have HO3 := keptH hO3
      have HP3 : Hid (∀ p ∈ P ++ [⟨-1, (k : Int), (k : Int) + 1⟩], PcOf k p) := by
        intro p hp
        rcases List.mem_append.1 hp with hp | hp
        · exact HP0.out.out p hp
        · simp at hp
          subst hp
          exact ⟨by simp only; omega, by simp only; omega, rfl, by simp only; omega, by simp only; omega⟩
      clear hO3 hB3 hg3 hO2a
      go_wp2
      go_ret
      exact ⟨_, _, rfl, HO3.out, by simp, by simp; omega, HP3, HB3.out⟩
end Go.Proofs.Ytohgglhjcklbaaa
