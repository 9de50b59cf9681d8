
/- The rests of code words behind each other; spec.rests, spec.firstLeft. -/
import Derived.Test.YtdjgodemeaneeaaCj
import Derived.Test.YtdjgodemeaneeaaCd
import Derived.Deep.Onto
namespace Go.Proofs.Ytdjgodemeaneeaa
open Go.RowKit

theorem keptC {p : Prop} (h : p) : Hid p := h
theorem results_twoC {fn : Func} {t u : Tmp} (h : fn.results = #[.tmp t, .tmp u]) (tmps : Array Value) (P : Program) (w : World) :
    (results fn tmps).run P w = .ok (.tuple #[tmps.getD t undef, tmps.getD u undef]) w := by
  simp [results, h]
/-- xs begins with ys and is longer -/
def Pre (xs ys : List Int) : Prop := ys.length < xs.length ∧ xs.take ys.length = ys
instance (xs ys : List Int) : Decidable (Pre xs ys) := inferInstanceAs (Decidable (_ ∧ _))
/-- the lists with what xs has behind ys, if that is new -/
def putL (R : List (List Int)) (xs ys : List Int) : List (List Int) := if Pre xs ys ∧ xs.drop ys.length ∉ R then R ++ [xs.drop ys.length] else R
theorem putL_no {R : List (List Int)} {xs ys : List Int} (h : ¬ Pre xs ys) : putL R xs ys = R := if_neg fun k => h k.1
theorem putL_old {R : List (List Int)} {xs ys : List Int} (h : xs.drop ys.length ∈ R) : putL R xs ys = R := if_neg fun k => k.2 h
theorem putL_new {R : List (List Int)} {xs ys : List Int} (h : Pre xs ys) (k : xs.drop ys.length ∉ R) : putL R xs ys = R ++ [xs.drop ys.length] := if_pos ⟨h, k⟩
theorem putL_len (R : List (List Int)) (xs ys : List Int) : (putL R xs ys).length ≤ R.length + 1 := by
  unfold putL; split <;> simp
/-- over the first k words -/
def putRow (L : List (List Int)) (xs : List Int) (R : List (List Int)) : Nat → List (List Int)
  | 0 => R
  | k + 1 => putL (putRow L xs R k) xs (L.getD k [])
def putAll (L : List (List Int)) : Nat → List (List Int)
  | 0 => []
  | i + 1 => putRow L (L.getD i []) (putAll L i) L.length
theorem putRow_len (L : List (List Int)) (xs : List Int) (R : List (List Int)) (k : Nat) : (putRow L xs R k).length ≤ R.length + k := by
  induction k with
  | zero => exact Nat.le_refl _
  | succ k ih => have := putL_len (putRow L xs R k) xs (L.getD k []); show (putL _ _ _).length ≤ _; omega
theorem putAll_len (L : List (List Int)) (i : Nat) : (putAll L i).length ≤ i * L.length := by
  induction i with
  | zero => simp [putAll]
  | succ i ih => have := putRow_len L (L.getD i []) (putAll L i) L.length; show (putRow _ _ _ _).length ≤ _; rw [Nat.succ_mul]; omega

set_option maxHeartbeats 1000000 in
theorem s_rests_yes (w : World) (u v : Value) (xs ys : List Int) (hx : IntsAt w u xs) (hy : IntsAt w v ys) (hl : xs.length ≤ 1048576) (hp : Hid (Pre xs ys)) :
    Calls Try.prog 109 #[u, v] w fun e w' => ∃ a5 z5 c5, e = .returned (.tuple #[.slice a5 z5 c5, .bool true]) ∧ OwnInts w' w.heap.size (.slice a5 z5 c5) (xs.drop ys.length) ∧ Below w.heap.size w w' := by
  have HX := Lib.hid hx
  have HY := Lib.hid hy
  obtain ⟨a, c, rfl, x1, x2, _⟩ := hx
  obtain ⟨a', d, rfl, y1, y2, _⟩ := hy
  obtain ⟨n, hn⟩ : ∃ n, xs.length = n := ⟨_, rfl⟩
  obtain ⟨m, hm⟩ : ∃ m, ys.length = m := ⟨_, rfl⟩
  rw [hn] at x1 HX hl ⊢
  rw [hm] at y1 HY ⊢
  have hlt : m < n := by have := hp.out.1; omega
  have HB : Hid (decide (xs.take ys.length = ys) = true) := decide_eq_true hp.out.2
  obtain ⟨g, off, rfl⟩ := HX.out.addrC (by omega)
  have HD : Hid (IntsAt w (.slice (some ⟨g, off + m, none⟩) (n - m) (c - m)) (xs.drop m)) := HX.out.dropC m (by omega)
  have HL : Hid ((xs.drop m).length = n - m) := by show _ = _; rw [List.length_drop, hn]
  have d1 : decide ((n : Int) ≤ m) = false := decide_eq_false (by omega)
  have d2 : ¬ c = m := by omega
  have b1 : (0 : Int) ≤ (m : Int) := by omega
  have b2 : (m : Int) ≤ (n : Int) := by omega
  have n1 : ((m : Int)).toNat = m := by omega
  clear hn hm
  go_enter Try.func109, Try.ntmps109
  go_wp2_with fail
  refine (s_startsWith_b w _ _ xs ys true HX.out HY.out HB).mono ?_
  rintro e w1 ⟨rfl, hb1⟩
  go_wp2_with fail
  refine (s_copyIntsC w1 _ _ _ _ _ (HD.out.below hb1) HL (by omega)).mono ?_
  rintro e w2 ⟨⟨u', rfl, hO⟩, hb2⟩
  obtain ⟨a5, z5, c5, rfl⟩ : ∃ a n c, u' = .slice a n c := by
    obtain ⟨a, c, h, _⟩ := hO.at
    exact ⟨a, _, c, h⟩
  have hs := hb1.size
  have FIN := keptC (And.intro (World.ownsRow.mono hO hs : OwnInts w2 w.heap.size (.slice a5 z5 c5) (xs.drop m)) (below_next hb1 hb2))
  clear hO hb1 hb2
  go_wp2
  refine bodyPost_ret (results_twoC rfl _ _ _) rfl ?_
  exact ⟨a5, z5, c5, rfl, FIN.out.1, FIN.out.2⟩
set_option maxHeartbeats 1000000 in
theorem s_rests_no (w : World) (u v : Value) (xs ys : List Int) (hx : IntsAt w u xs) (hy : IntsAt w v ys) (hp : Hid (¬ Pre xs ys)) :
    Calls Try.prog 109 #[u, v] w fun e w' => e = .returned (.tuple #[.slice none 0 0, .bool false]) ∧ Below w.heap.size w w' := by
  have HX := Lib.hid hx
  have HY := Lib.hid hy
  obtain ⟨a, c, rfl, x1, x2, _⟩ := hx
  obtain ⟨a', d, rfl, y1, y2, _⟩ := hy
  obtain ⟨n, hn⟩ : ∃ n, xs.length = n := ⟨_, rfl⟩
  obtain ⟨m, hm⟩ : ∃ m, ys.length = m := ⟨_, rfl⟩
  rw [hn] at x1 HX ⊢
  rw [hm] at y1 HY ⊢
  by_cases hlt : m < n
  · have HB : Hid (decide (xs.take ys.length = ys) = false) := decide_eq_false fun h => hp.out ⟨by omega, h⟩
    have d1 : decide ((n : Int) ≤ m) = false := decide_eq_false (by omega)
    clear hn hm
    go_enter Try.func109, Try.ntmps109
    go_wp2_with fail
    refine (s_startsWith_b w _ _ xs ys false HX.out HY.out HB).mono ?_
    rintro e w1 ⟨rfl, hb1⟩
    go_wp2
    refine bodyPost_ret (results_twoC rfl _ _ _) rfl ?_
    exact ⟨rfl, hb1⟩
  · have d1 : decide ((n : Int) ≤ m) = true := decide_eq_true (by omega)
    clear hn hm
    go_enter Try.func109, Try.ntmps109
    go_wp2
    refine bodyPost_ret (results_twoC rfl _ _ _) rfl ?_
    exact ⟨rfl, Below.refl _ _⟩
end Go.Proofs.Ytdjgodemeaneeaa
