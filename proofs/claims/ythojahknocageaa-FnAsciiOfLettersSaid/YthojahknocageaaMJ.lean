/- Merged: Vx Vv Vw Vq Vo Gi Gj Gl. -/
import Derived.Test.YthojahknocageaaMF
import Derived.Deep.RegionLaw
import Derived.Test.YthojahknocageaaMD
import Derived.Test.YthojahknocageaaMA
import Derived.Laws.AppendOwnNone
import Derived.Test.YthojahknocageaaMC
import Derived.Test.YthojahknocageaaMG
import Derived.Test.YthojahknocageaaME
import Derived.Deep.QuietTactic
import Derived.BigQuiet

/- A table without one of its rules. -/
namespace Go.Proofs.Ythojahknocageaa
open Go.RowKit

theorem step_of {P : Program} {o : Oper} {a : Act} {w : World} {y : Nat → Option Bool} {K : Act → World → Prop} {Q : Exit → Act → World → Prop} {E : Prop} (hgd : o.guard = none) (h : Oper.wp P o a w K Q) : if Region.wanted o y = true then Oper.wp P o a w K Q else E := by
  have hw : Region.wanted o y = true := by simp [Region.wanted, hgd]
  rw [if_pos hw]; exact h
theorem rcells_app (A B : List (PRule × Value)) : rcells (A ++ B) = rcells A ++ rcells B := by simp [rcells]
theorem rcells_take_news {w : World} {S g n cap i : Nat} {Q : List (PRule × Value)} (h : w.ownsRow S 56 3 (.slice (some ⟨g, 0, none⟩) n cap) n (rcells Q)) : ∀ j u, (rcells (Q.take i))[j]? = some u → w.cell? ((⟨g, 0, none⟩ : Addr).add j) = some u := by
  intro j u hj
  refine h.cells (g := g) rfl j u ?_
  have hl := (List.getElem?_eq_some_iff.1 hj).1
  have e := rcells_app (Q.take i) (Q.drop i)
  rw [List.take_append_drop] at e
  rw [e, List.getElem?_append_left hl]; exact hj
theorem rcells_drop_news {w : World} {S g n cap i : Nat} {Q : List (PRule × Value)} (hi : i ≤ Q.length) (h : w.ownsRow S 56 3 (.slice (some ⟨g, 0, none⟩) n cap) n (rcells Q)) : ∀ j u, (rcells (Q.drop i))[j]? = some u → w.cell? ((⟨g, i * 3, none⟩ : Addr).add j) = some u := by
  intro j u hj
  have e := rcells_app (Q.take i) (Q.drop i)
  rw [List.take_append_drop] at e
  have hl : (rcells (Q.take i)).length = i * 3 := by rw [rcells_len, List.length_take, Nat.min_eq_left hi]
  have := h.cells (g := g) rfl (i * 3 + j) u (by rw [e, List.getElem?_append_right (by omega), hl, show i * 3 + j - i * 3 = j from by omega]; exact hj)
  rw [Addr.add_lit] at this ⊢
  rw [Nat.zero_add] at this
  exact this
/-- a table without its i-th rule -/
def wout (Q : List (PRule × Value)) (i : Nat) : List (PRule × Value) := Q.take i ++ Q.drop (i + 1)
theorem wout_mem {Q : List (PRule × Value)} {i : Nat} {x : PRule × Value} (h : x ∈ wout Q i) : x ∈ Q := by
  rcases List.mem_append.1 h with h | h
  · exact List.mem_of_mem_take h
  · exact List.mem_of_mem_drop h
end Go.Proofs.Ythojahknocageaa


/- FnRulesAtLess: its walk. -/
namespace Go.Proofs.Ythojahknocageaa
open Go.RowKit

theorem equalInts_alike (w : World) (u v : Value) (xs : List Int) (hx : IntsAt w u xs) (hy : IntsAt w v xs) :
    Calls Try.prog 14 #[u, v] w fun e w' => e = .returned (.bool true) ∧ Below w.heap.size w w' := by
  have := equalInts_any w u v xs xs hx hy
  rw [decide_eq_true rfl] at this
  exact this
theorem wpList_append_ints {ops : Array Oper} {rest : List Oper} {o : Oper} {a : Act} {w : World} {Q : Exit → Act → World → Prop} (hgd : o.guard = none) (s x : Operand)
    (ho : o.op = .call { callee := .builtin .append, args := #[s, x], argTypes := #[23, 23] }) (base B2 : Nat) {v u : Value} {xs ys : List Int} (hs : a.eval s = v) (hx : a.eval x = u)
    (h1 : OwnInts w base v xs) (h2 : OwnInts w B2 u ys) (hl : xs.length + ys.length ≤ 1000000) (hbase : base ≤ w.heap.size)
    (h : ∀ v' w', OwnInts w' base v' (xs ++ ys) → w.grownBy w' v.ownBlock → wpList Try.prog ops Q rest (a.put o.dst v') w') : wpList Try.prog ops Q (o :: rest) a w := by
  obtain ⟨i0, hi, hz0, hz1, hz2⟩ := info_parts infoInt
  have hx2 := h2.at
  rcases h2.2 with ⟨e, hn⟩ | ⟨g, cap, cur, e, _⟩
  · have hy : ys = [] := List.length_eq_zero_iff.1 hn
    subst hy
    subst e
    exact wpList_append_own_none hgd s x 23 ho base 3 i0 1 Try.underlying23 hi v _ (ints xs) hs h1 hx (h v w (by rw [List.append_nil]; exact h1) (World.grownBy.refl w _))
  · subst e
    refine wpList_append_own w hgd s x 23 ho base 3 i0 (.int .i64 0) 1 8 Try.underlying23 hi hz0 hz1 hz2 rfl (by decide) v xs.length (ints xs) hs h1 ⟨g, 0, none⟩ ys.length cap (ints ys) hx (by rw [ints_length, Nat.mul_one]) hx2.news (ints_oneCell' ys) (by unfold maxLen; omega) (by omega) hbase ?_
    intro v' w' hown' hgrow _
    have hO := OwnInts.addAll' hown' rfl
    exact h v' w' hO hgrow

theorem TableAt.takeN {w : World} {g n c k : Nat} {T : List PRule} (h : TableAt w (.slice (some ⟨g, 0, none⟩) n c) T) (hn : T.length = n) (hk : k ≤ n) : TableAt w (.slice (some ⟨g, 0, none⟩) k c) (T.take k) := by
  obtain ⟨a, cp, e, x1, x2, x3⟩ := h
  injection e with e1 e2 e3
  subst e1 e3
  have hl : (T.take k).length = k := by simp; omega
  refine ⟨_, c, by rw [hl], by omega, x2, ?_⟩
  rcases x3 with rfl | ⟨g', off, e, x3⟩
  · exact .inl (by simp)
  · refine .inr ⟨g', off, e, fun i hi => ?_⟩
    rw [takeD (by omega)]
    exact x3 i (by omega)
theorem rulesTo_take (T : List PRule) (s : ByteArray) (p : Int) (m : Nat) : ∀ k, k ≤ m → rulesTo (T.take m) s p k = rulesTo T s p k := by
  intro k
  induction k with
  | zero => intro _; rfl
  | succ k ih =>
    intro hk
    show rulesTo (T.take m) s p k ++ _ = rulesTo T s p k ++ _
    rw [ih (by omega), takeD (by omega)]
theorem rulesTo_lt {T : List PRule} {s : ByteArray} {p : Int} : ∀ (k : Nat) {z : Int}, z ∈ rulesTo T s p k → z < k := by
  intro k
  induction k with
  | zero => intro z h; exact absurd h (by simp [rulesTo])
  | succ k ih =>
    intro z h
    rcases List.mem_append.1 h with h | h
    · have := ih h; omega
    · split at h
      · simp at h; omega
      · simp at h
theorem validTb_take {T : List PRule} (h : ValidTb T) (k : Nat) (hk : k ≤ T.length) : ValidTb (T.take k) := by
  have hl : (T.take k).length = k := by simp; omega
  refine ⟨by have := h.1; omega, fun i hi => ?_, fun i j hi hj => ?_⟩
  · rw [takeD (by omega)]; exact h.2.1 i (by omega)
  · rw [takeD (by omega), takeD (by omega)]; exact h.2.2 i j (by omega) hj
theorem fits_take {T : List PRule} (h : TableFits T) (k : Nat) : TableFits (T.take k) := fun x hx => h x (List.mem_of_mem_take hx)

end Go.Proofs.Ythojahknocageaa


/- The draw of RulesAt: a table, a word, a place. -/
namespace Go.Proofs.Ythojahknocageaa
open Go.RowKit

def txtW : List ByteArray := [⟨#[]⟩, ⟨#[84, 104, 101]⟩, ⟨#[97, 32, 98]⟩, ⟨#[97, 98, 99, 100, 101, 102, 103, 104, 105, 106, 107, 108, 109, 110, 111, 112, 113]⟩, ⟨#[97, 98, 99, 100, 101, 102, 103, 104, 105, 106, 107, 108, 109, 110, 111, 112]⟩, ⟨#[49]⟩, ⟨#[105, 116, 39, 115]⟩]
def txtS : List ByteArray := [⟨#[116, 104, 101]⟩, ⟨#[116, 104, 101, 110]⟩, ⟨#[111, 116, 104, 101, 114]⟩, ⟨#[97, 110, 100]⟩, ⟨#[115, 97, 110, 100]⟩, ⟨#[102, 105, 110, 103, 101, 114]⟩, ⟨#[114, 105, 110, 103]⟩, ⟨#[98, 117, 116]⟩, ⟨#[98]⟩, ⟨#[99, 97, 110]⟩, ⟨#[99, 97, 110, 110, 111, 116]⟩, ⟨#[100, 111]⟩, ⟨#[100, 111, 105, 110, 103]⟩, ⟨#[115, 116, 114, 105, 110, 103]⟩, ⟨#[116, 104, 105, 110, 103]⟩, ⟨#[119, 104, 101, 110]⟩, ⟨#[102, 97, 116, 104, 101, 114]⟩, ⟨#[115, 104, 101, 100]⟩, ⟨#[98, 101, 100]⟩, ⟨#[105, 110]⟩, ⟨#[105, 110, 103, 101, 115, 116]⟩, ⟨#[116, 104, 101, 116, 104, 101]⟩, ⟨#[97, 110, 100, 101, 114]⟩, ⟨#[97]⟩, ⟨#[106, 107, 122]⟩, ⟨#[99, 104, 101, 115, 116]⟩, ⟨#[116, 104, 105, 110]⟩, ⟨#[119, 105, 110, 101]⟩]
set_option maxHeartbeats 400000 in
theorem someWord_any (w : World) (B R L p : Nat) (h : RD w B R L p) (hp : p ≤ 100000000000) :
    Calls Try.prog 58 #[.pointer (some ⟨R, 0, none⟩)] w fun e w' => TextDrawn 17 1 w B R L p e w' := by
  have hR := h.lt
  go_enter Try.func58, Try.ntmps58
  go_wp2_with fail
  refine (of_any (w.alloc (.cells (strs txtS) 9)) B R L p w.heap.size 28 28 txtS (h.alloc _) (heap_alloc_new w _) (by omega) (Lib.hid rfl) (by omega) (by omega) (by omega)).mono ?_
  rintro e w1 ⟨t, rfl, ht, hrd1, hgr1⟩
  have ht2 : t.size ≤ 17 := small_strs (by decide) ht
  have FIN := keptH (And.intro hrd1 (grown_trans (World.grownBy_alloc w (.cells (strs txtS) 9) (some R)) hgr1))
  clear ht hrd1 hgr1
  go_wp2
  go_ret
  exact ⟨t, p + 1, rfl, ht2, FIN.out.1, by omega, FIN.out.2⟩
set_option maxHeartbeats 400000 in
theorem anyWord_any (w : World) (B R L p : Nat) (h : RD w B R L p) (hp : p ≤ 10000000000) :
    Calls Try.prog 46 #[.pointer (some ⟨R, 0, none⟩)] w fun e w' => TextDrawn 17 2 w B R L p e w' := by
  have hR := h.lt
  go_enter Try.func46, Try.ntmps46
  go_wp2_with fail
  refine (pick_any w B R L p _ h (by omega) (by omega) (by omega)).mono ?_
  rintro e w1 ⟨k, rfl, hk, hrd, hgr⟩
  have hl1 := hrd.lt
  by_cases k0 : k = 0
  · subst k0
    go_wp2_with fail
    refine (of_any (w1.alloc (.cells (strs txtW) 9)) B R L (p + 1) w1.heap.size 7 7 txtW (hrd.alloc _) (heap_alloc_new w1 _) (by omega) (Lib.hid rfl) (by omega) (by omega) (by omega)).mono ?_
    rintro e w2 ⟨t, rfl, ht, hrd2, hgr2⟩
    have ht2 : t.size ≤ 17 := small_strs (by decide) ht
    have FIN := keptH (And.intro hrd2 (grown_trans hgr (grown_trans (World.grownBy_alloc w1 (.cells (strs txtW) 9) (some R)) hgr2)))
    clear ht hrd2 hgr2
    go_wp2
    go_ret
    exact ⟨t, _, rfl, ht2, FIN.out.1, by omega, FIN.out.2⟩
  · have e0 : ((k : Int) == 0) = false := by simp; omega
    go_wp2_with fail
    refine (someWord_any w1 B R L (p + 1) hrd (by omega)).mono ?_
    rintro e w2 ⟨t, q, rfl, ht2, hrd2, hq, hgr2⟩
    have FIN := keptH (And.intro hrd2 (grown_trans hgr hgr2))
    clear hrd2 hgr2
    go_wp2
    go_ret
    exact ⟨t, _, rfl, ht2, FIN.out.1, by omega, FIN.out.2⟩

theorem results_three {fn : Func} {t u v : Tmp} (h : fn.results = #[.tmp t, .tmp u, .tmp v]) (tmps : Array Value) (P : Program) (w : World) :
    (results fn tmps).run P w = .ok (.tuple #[tmps.getD t undef, tmps.getD u undef, tmps.getD v undef]) w := by
  simp [results, h]
/-- a drawn table, a word and a place -/
def RaMade (w : World) (e : Ending) (w' : World) : Prop :=
  ∃ S g n cap Q s p, e = .returned (.tuple #[.slice (some ⟨g, 0, none⟩) n cap, .string s, .int .i64 p]) ∧ TabOwn w' S (.slice (some ⟨g, 0, none⟩) n cap) Q ∧ Hid (Q.length = n) ∧ TableFits (tabOf Q) ∧ n ≤ 9 ∧ S ≤ w'.heap.size ∧ Below w.heap.size w w' ∧ ByteArray.size s ≤ 17 ∧ -1 ≤ p ∧ p ≤ 17
end Go.Proofs.Ythojahknocageaa


/- The draw of pieces. -/
namespace Go.Proofs.Ythojahknocageaa
open Go.RowKit

/-- small numbers in a piece -/
def PcLow (p : PPiece) : Prop := -2 ≤ p.r ∧ p.r ≤ 20 ∧ 0 ≤ p.f ∧ p.f ≤ 100 ∧ 0 ≤ p.t ∧ p.t ≤ 101
def PcMid (p : PPiece) : Prop := -2 ≤ p.r ∧ p.r ≤ 20 ∧ 0 ≤ p.f ∧ p.f ≤ 100 ∧ 0 ≤ p.t ∧ p.t ≤ 102
theorem PcLow.mid {p : PPiece} (h : PcLow p) : PcMid p := ⟨h.1, h.2.1, h.2.2.1, h.2.2.2.1, h.2.2.2.2.1, by have := h.2.2.2.2.2; omega⟩
def PcDrawn (w : World) (B R L p : Nat) (e : Ending) (w' : World) : Prop :=
  ∃ v P q, e = .returned v ∧ PiecesAt w' v P ∧ Hid (∀ x ∈ P, PcMid x) ∧ P.length ≤ 40 ∧ RD w' B R L q ∧ q ≤ p + 100 ∧ w.grownBy w' (some R)
theorem s_validWord_b (s : ByteArray) (b : Bool) (w : World) (hs : s.size ≤ 9223372036854775807) (hb : Hid (decide (WordB 16 s.data.toList) = b)) :
    Calls Try.prog 39 #[.string s] w fun e w' => e = .returned (.bool b) ∧ w = w' := by
  have := s_validWord s w hs
  rw [hb.out] at this
  exact this
end Go.Proofs.Ythojahknocageaa


/- The draw of pieces for a law; one piece a letter; a word cut and joined. -/
namespace Go.Proofs.Ythojahknocageaa
open Go.RowKit

/-- a drawn table, a word and pieces -/
def VpMade (w : World) (e : Ending) (w' : World) : Prop :=
  ∃ g n cap T s v P, e = .returned (.tuple #[.slice (some ⟨g, 0, none⟩) n cap, .string s, v]) ∧ TableAt w' (.slice (some ⟨g, 0, none⟩) n cap) T ∧ TableFits T ∧ ByteArray.size s ≤ 17 ∧ PiecesAt w' v P ∧ PiecesFit P ∧ P.length ≤ 40 ∧ Below w.heap.size w w'
theorem pcMid_fit {P : List PPiece} (h : ∀ x ∈ P, PcMid x) : PiecesFit P := fun x hx => by
  have := h x hx
  unfold PcMid at this
  unfold PieceFits
  omega
/-- one piece for each letter -/
def plainP (n : Nat) : List PPiece := (List.range n).map fun i : Nat => ⟨-1, i, (i : Int) + 1⟩
theorem plainP_len (n : Nat) : (plainP n).length = n := by simp [plainP]
theorem plainP_at {n k : Nat} (h : k < n) : (plainP n).getD k noP = ⟨-1, k, (k : Int) + 1⟩ := by simp [plainP, List.getD_eq_getElem?_getD, h]
theorem plainP_snoc (n : Nat) : plainP n ++ [⟨-1, n, (n : Int) + 1⟩] = plainP (n + 1) := by simp [plainP, List.range_succ]
theorem plainP_end (n : Nat) : ∀ k, k ≤ n → endAt (plainP n) k = k := by
  intro k hk
  cases k with
  | zero => rfl
  | succ k => show ((plainP n).getD k noP).t = _; rw [plainP_at (by omega)]; simp
theorem plainP_valid (T : List PRule) (s : ByteArray) : ValidPv T s (plainP s.size) := by
  refine ⟨fun i hi => ?_, ?_⟩
  · rw [plainP_len] at hi
    rw [plainP_at hi, plainP_end _ i (by omega)]
    exact ⟨rfl, by simp only; omega, by simp only; omega, .inl ⟨rfl, rfl⟩⟩
  · rw [plainP_len, plainP_end _ _ (Nat.le_refl _)]
theorem plainP_fit {n : Nat} (hn : n ≤ 1000) : PiecesFit (plainP n) := by
  intro p hp
  simp [plainP] at hp
  obtain ⟨i, hi, rfl⟩ := hp
  unfold PieceFits
  simp only
  omega
theorem ext_join (s : ByteArray) {a b : Nat} (h : a ≤ b) : s.extract 0 a ++ s.extract a b = s.extract 0 b := by
  apply ByteArray.ext
  simp only [ByteArray.data_append, ByteArray.data_extract]
  rw [Array.extract_append_extract]
  congr 1 <;> omega
theorem ext_all (s : ByteArray) : s.extract 0 s.size = s := by
  apply ByteArray.ext
  simp only [ByteArray.data_extract]
  exact Array.extract_size
end Go.Proofs.Ythojahknocageaa


/- Greedy pieces of drawn tables and words: they are valid, and no rule that applies is longer. -/
namespace Go.Proofs.Ythojahknocageaa
open Go.RowKit

theorem results_two {fn : Func} {t u : Tmp} (h : fn.results = #[.tmp t, .tmp u]) (tmps : Array Value) (P : Program) (w : World) :
    (results fn tmps).run P w = .ok (.tuple #[tmps.getD t undef, tmps.getD u undef]) w := by
  simp [results, h]
/-- a drawn table and a word -/
def GrMade (w : World) (e : Ending) (w' : World) : Prop :=
  ∃ S g n cap Q s, e = .returned (.tuple #[.slice (some ⟨g, 0, none⟩) n cap, .string s]) ∧ TabOwn w' S (.slice (some ⟨g, 0, none⟩) n cap) Q ∧ Hid (Q.length = n) ∧ TableFits (tabOf Q) ∧ n ≤ 9 ∧ S ≤ w'.heap.size ∧ Below w.heap.size w w' ∧ ByteArray.size s ≤ 17
set_option maxHeartbeats 1000000 in
theorem drawGreedy_any (w : World) (a : Option Addr) (len cap : Nat) (zs : List Int) (h : RowIn .u8 w a len cap zs) :
    Calls Try.prog 34 #[.slice a len cap] w fun e w' => GrMade w e w' := by
  obtain ⟨h1, h2, h3⟩ := bytesAt_of_row h
  clear h
  go_enter Try.func34, Try.ntmps34
  go_wp2_with fail
  refine (newReader_any w _ a len cap h1 (Nat.le_refl _) h2 h3).mono ?_
  rintro e w1 ⟨L, rfl, hrd, hgr⟩
  have hl1 := hrd.lt
  go_wp2_with fail
  refine (anyTable_any w1 _ _ L 0 hrd (by omega)).mono ?_
  rintro e w2 ⟨v, Q, q, rfl, hT, hF, hlen, hrd2, hq, hgr2⟩
  have hl2 := hrd2.lt
  obtain ⟨g, c, hv⟩ := hT.2.2
  subst hv
  go_wp2_with fail
  refine (anyWord_any w2 _ _ L q hrd2 (by omega)).mono ?_
  rintro e w3 ⟨s, q3, rfl, hs, hrd3, hq3, hgr3⟩
  have hl3 := hrd3.lt
  have hT3 := hT.overR hgr3 hl1
  have hG3 := grown_trans hgr2 hgr3
  have FIN := keptH (And.intro hT3 (And.intro hF (And.intro hG3.size (below_of_grown (grown_new hgr hG3 (Nat.le_refl _))))))
  clear hT hgr2 hgr3 hrd hrd2 hT3 hrd3 hF hG3 hgr
  go_wp2
  refine bodyPost_ret (results_two rfl _ _ _) rfl ?_
  exact ⟨_, g, _, c, Q, s, rfl, FIN.out.1, rfl, FIN.out.2.1, hlen, FIN.out.2.2.1, FIN.out.2.2.2, hs⟩

theorem rulesL_mem {T : List PRule} {s : ByteArray} {p : Int} {k : Nat} : (k : Int) ∈ rulesL T s p ↔ k < T.length ∧ App (T.getD k noR) s p := by
  have key : ∀ n, (k : Int) ∈ rulesTo T s p n ↔ k < n ∧ App (T.getD k noR) s p := by
    intro n
    induction n with
    | zero => simp [rulesTo]
    | succ n ih =>
      show (k : Int) ∈ rulesTo T s p n ++ _ ↔ _
      rw [List.mem_append, ih]
      constructor
      · rintro (⟨h1, h2⟩ | h)
        · exact ⟨by omega, h2⟩
        · split at h
          · rename_i hA
            simp at h
            obtain rfl : k = n := by omega
            exact ⟨by omega, hA⟩
          · simp at h
      · rintro ⟨h1, h2⟩
        by_cases hk : k = n
        · subst hk
          right; rw [if_pos h2]; simp
        · exact .inl ⟨by omega, h2⟩
  exact key T.length
/-- no rule applies where a letter stands for itself -/
theorem bst_none {T : List PRule} {s : ByteArray} {k : Nat} (h : bst T s k = -1) : rulesL T s k = [] := by
  rcases lgTo_bst T s k with ⟨_, h2⟩ | ⟨j, h1, _⟩
  · cases hL : rulesL T s k with
    | nil => rfl
    | cons z t =>
      have hz : z ∈ rulesL T s k := by rw [hL]; exact List.mem_cons_self ..
      have := rulesTo_nn T.length hz
      obtain ⟨m, rfl⟩ : ∃ m : Nat, z = m := ⟨z.toNat, by omega⟩
      have := rulesL_mem.1 hz
      exact absurd this.2 (h2 m this.1)
  · unfold bst at h; omega
/-- no rule that applies is longer than the chosen piece -/
theorem bst_long {T : List PRule} {s : ByteArray} {k : Nat} {z : Int} (hz : z ∈ rulesL T s k) : 0 ≤ z ∧ z < T.length ∧ ((T.getD z.toNat noR).t.size : Int) ≤ (pcG T s k).t - (pcG T s k).f := by
  have hn := rulesTo_nn T.length hz
  obtain ⟨m, rfl⟩ : ∃ m : Nat, z = m := ⟨z.toNat, by omega⟩
  have hm := rulesL_mem.1 hz
  refine ⟨hn.1, hn.2, ?_⟩
  rw [Int.toNat_natCast]
  rcases lgTo_bst T s k with ⟨_, h2⟩ | ⟨j, h1, h3, _, h4⟩
  · exact absurd hm.2 (h2 m hm.1)
  · have h5 := h4 m hm.1 hm.2
    unfold pcG pcB bst
    rw [h1, if_neg (by omega)]
    have h6 : szR T (j : Int) = (T.getD j noR).t.size := by unfold szR; rw [Int.toNat_natCast]
    simp only
    rw [h6]
    omega
theorem grL_at {T : List PRule} {s : ByteArray} : ∀ j i, i < j → (grL T s j).getD i noP = pcG T s (gpos T s i) := by
  intro j
  induction j with
  | zero => intro i h; omega
  | succ j ih =>
    intro i h
    show (grL T s j ++ [pcG T s (gpos T s j)]).getD i noP = _
    rw [List.getD_eq_getElem?_getD]
    by_cases hi : i < j
    · rw [List.getElem?_append_left (by rw [grL_len]; exact hi), ← List.getD_eq_getElem?_getD]
      exact ih i hi
    · obtain rfl : i = j := by omega
      rw [List.getElem?_append_right (by rw [grL_len]; omega), grL_len]
      simp
theorem grL_endAt {T : List PRule} {s : ByteArray} (hv : ValidTb T) {j : Nat} (h1 : ∀ i, i < j → gpos T s i < s.size) : ∀ i, i ≤ j → endAt (grL T s j) i = gpos T s i := by
  intro i hi
  cases i with
  | zero => rfl
  | succ i =>
    show ((grL T s j).getD i noP).t = ((pcG T s (gpos T s i)).t.toNat : Nat)
    rw [grL_at j i (by omega)]
    have := pcG_bd hv (h1 i (by omega))
    omega
theorem pcG_ok {T : List PRule} {s : ByteArray} (hv : ValidTb T) {k : Nat} (hk : k < s.size) : PcOk T s (pcG T s k) := by
  have hb := pcG_bd hv hk
  refine ⟨by omega, by omega, ?_⟩
  have hbs := lgTo_bst T s k
  unfold pcG pcB bst
  rcases hbs with ⟨h1, h2⟩ | ⟨j, h1, hj, hA, h2⟩
  · left
    rw [h1, if_pos rfl]
    exact ⟨rfl, rfl⟩
  · right
    rw [h1, if_neg (by omega)]
    have h5 : szR T (j : Int) = (T.getD j noR).t.size := by unfold szR; rw [Int.toNat_natCast]
    simp only [Int.toNat_natCast]
    exact ⟨by omega, by omega, hA, by rw [h5]⟩
theorem grL_valid {T : List PRule} {s : ByteArray} (hv : ValidTb T) {j : Nat} (h1 : ∀ i, i < j → gpos T s i < s.size) (h2 : s.size ≤ gpos T s j) (h0 : 0 < s.size) : ValidPv T s (grL T s j) := by
  refine ⟨fun i hi => ?_, ?_⟩
  · rw [grL_len] at hi
    rw [grL_at j i hi, grL_endAt hv h1 i (by omega)]
    exact ⟨(pcG_bd hv (h1 i hi)).2.1, pcG_ok hv (h1 i hi)⟩
  · rw [grL_len, grL_endAt hv h1 j (Nat.le_refl _)]
    cases j with
    | zero =>
      have hg0 : gpos T s 0 = 0 := rfl
      omega
    | succ j =>
      have := pcG_bd hv (h1 j (by omega))
      have hg : gpos T s (j + 1) = (pcG T s (gpos T s j)).t.toNat := rfl
      omega
theorem grL_fit {T : List PRule} {s : ByteArray} (hv : ValidTb T) {j : Nat} (h1 : ∀ i, i < j → gpos T s i < s.size) (hs : s.size ≤ 1000) : PiecesFit (grL T s j) := by
  have hT := hv.1
  intro x hx
  obtain ⟨i, hi, rfl⟩ := List.getElem_of_mem hx
  rw [grL_len] at hi
  have e := grL_at (T := T) (s := s) j i hi
  rw [List.getD_eq_getElem?_getD, List.getElem?_eq_getElem (by rw [grL_len]; exact hi), Option.getD_some] at e
  rw [e]
  have := pcG_bd hv (h1 i hi)
  have h16 : T.length ≤ 16 := hT
  refine ⟨?_, ?_, ?_⟩ <;> omega

end Go.Proofs.Ythojahknocageaa


/- The laws of GreedyPieces on drawn tables and words. -/
namespace Go.Proofs.Ythojahknocageaa
open Go.RowKit

end Go.Proofs.Ythojahknocageaa


/- GreedyPieces of drawn tables and words: the laws' walks. -/
namespace Go.Proofs.Ythojahknocageaa
open Go.RowKit

theorem PiecesAt.len {w : World} {a : Option Addr} {n c : Nat} {P : List PPiece} (h : PiecesAt w (.slice a n c) P) : P.length = n := by
  obtain ⟨_, _, e, _⟩ := h
  injection e with _ e2 _
  exact e2.symm
theorem PiecesAt.cell3 {w : World} {a : Option Addr} {n c : Nat} {P : List PPiece} (h : PiecesAt w (.slice a n c) P) {i : Nat} (hi : i < P.length) :
    ∃ g off, a = some ⟨g, off, none⟩ ∧ w.cell? ⟨g, off + i * 3, none⟩ = some (.int .i64 (P.getD i noP).r) ∧ w.cell? ⟨g, off + i * 3 + 1, none⟩ = some (.int .i64 (P.getD i noP).f) ∧ w.cell? ⟨g, off + i * 3 + 2, none⟩ = some (.int .i64 (P.getD i noP).t) := by
  obtain ⟨a', cap, e, _, _, hc⟩ := h
  injection e with e1 _ _
  subst e1
  rcases hc with rfl | ⟨g, off, e, hc⟩
  · simp at hi
  · obtain ⟨h1, h2, h3⟩ := hc i hi
    exact ⟨g, off, e, h1, h2, h3⟩
end Go.Proofs.Ythojahknocageaa

