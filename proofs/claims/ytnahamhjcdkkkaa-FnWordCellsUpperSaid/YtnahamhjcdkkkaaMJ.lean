/- Merged: Vx Vv Vw Vq Vo Gi Gj Gl. -/
import Derived.Test.YtnahamhjcdkkkaaMF
import Derived.Deep.RegionLaw
import Derived.Test.YtnahamhjcdkkkaaMD
import Derived.Test.YtnahamhjcdkkkaaMA
import Derived.Laws.AppendOwnNone
import Derived.Test.YtnahamhjcdkkkaaMC
import Derived.Test.YtnahamhjcdkkkaaMG
import Derived.Test.YtnahamhjcdkkkaaME
import Derived.Deep.QuietTactic
import Derived.BigQuiet

/- A table without one of its rules. -/
namespace Go.Proofs.Ytnahamhjcdkkkaa
open Go.RowKit

theorem step_of {P : Program} {o : Oper} {a : Act} {w : World} {y : Nat → Option Bool} {K : Act → World → Prop} {Q : Exit → Act → World → Prop} {E : Prop} (hgd : o.guard = none) (h : Oper.wp P o a w K Q) : if Region.wanted o y = true then Oper.wp P o a w K Q else E := by
  have hw : Region.wanted o y = true := by simp [Region.wanted, hgd]
  rw [if_pos hw]; exact h
theorem rcells_app (A B : List (PRule × Value)) : rcells (A ++ B) = rcells A ++ rcells B := by simp [rcells]
theorem rcells_take_news {w : World} {S g n cap i : Nat} {Q : List (PRule × Value)} (h : w.ownsRow S 36 3 (.slice (some ⟨g, 0, none⟩) n cap) n (rcells Q)) : ∀ j u, (rcells (Q.take i))[j]? = some u → w.cell? ((⟨g, 0, none⟩ : Addr).add j) = some u := by
  intro j u hj
  refine h.cells (g := g) rfl j u ?_
  have hl := (List.getElem?_eq_some_iff.1 hj).1
  have e := rcells_app (Q.take i) (Q.drop i)
  rw [List.take_append_drop] at e
  rw [e, List.getElem?_append_left hl]; exact hj
theorem rcells_drop_news {w : World} {S g n cap i : Nat} {Q : List (PRule × Value)} (hi : i ≤ Q.length) (h : w.ownsRow S 36 3 (.slice (some ⟨g, 0, none⟩) n cap) n (rcells Q)) : ∀ j u, (rcells (Q.drop i))[j]? = some u → w.cell? ((⟨g, i * 3, none⟩ : Addr).add j) = some u := by
  intro j u hj
  have e := rcells_app (Q.take i) (Q.drop i)
  rw [List.take_append_drop] at e
  have hl : (rcells (Q.take i)).length = i * 3 := by rw [rcells_len, List.length_take, Nat.min_eq_left hi]
  have := h.cells (g := g) rfl (i * 3 + j) u (by rw [e, List.getElem?_append_right (by omega), hl, show i * 3 + j - i * 3 = j from by omega]; exact hj)
  rw [Addr.add_lit] at this ⊢
  rw [Nat.zero_add] at this
  exact this
/-- a table without its i-th rule -/
def wout (Q : List (PRule × Value)) (i : Nat) : List (PRule × Value) := Q.take i ++ Q.drop (i + 1)
theorem wout_mem {Q : List (PRule × Value)} {i : Nat} {x : PRule × Value} (h : x ∈ wout Q i) : x ∈ Q := by
  rcases List.mem_append.1 h with h | h
  · exact List.mem_of_mem_take h
  · exact List.mem_of_mem_drop h
set_option maxRecDepth 20000 in
set_option maxHeartbeats 4000000 in
theorem withoutRule_any (w : World) (S : Nat) (g n cap i : Nat) (Q : List (PRule × Value)) (h : TabOwn w S (.slice (some ⟨g, 0, none⟩) n cap) Q) (hn : Hid (Q.length = n)) (hi : i < n) (hbig : n ≤ 1000) (hS : S ≤ w.heap.size) :
    Calls Try.prog 42 #[.slice (some ⟨g, 0, none⟩) n cap, .int .i64 i] w fun e w' => ∃ g' c', e = .returned (.slice (some ⟨g', 0, none⟩) (n - 1) c') ∧ TabOwn w' S (.slice (some ⟨g', 0, none⟩) (n - 1) c') (wout Q i) ∧ Below w.heap.size w w' := by
  obtain ⟨i0, hi0, hz0, hz1, hz2⟩ := info_parts infoRule
  have hcap : n ≤ cap ∧ cap ≤ 9223372036854775807 := by
    rcases h.1.2 with ⟨h3, _⟩ | ⟨g', c', cur, h3, _, _, h4, h5, _⟩
    · simp at h3
    · injection h3 with e1 e2 e3
      unfold maxLen at h5
      rw [hn.out] at h4
      omega
  have hrow := h.1
  rw [hn.out] at hrow
  have hl1 : Hid ((rcells (Q.take i)).length = i * 3) := by show _ = _; rw [rcells_len, List.length_take, hn.out, Nat.min_eq_left (by omega)]
  have hl2 : Hid ((rcells (Q.drop (i + 1))).length = (n - 1 - i) * 3) := by
    show _ = _
    have e : n - (i + 1) = n - 1 - i := by omega
    rw [rcells_len, List.length_drop, hn.out, e]
  have ho1 := keptH (rcells_one (Q.take i) (fun q hq => (h.2.1 q (List.mem_of_mem_take hq)).2))
  have ho2 := keptH (rcells_one (Q.drop (i + 1)) (fun q hq => (h.2.1 q (List.mem_of_mem_drop hq)).2))
  have hownv : (w.alloc (.cells #[] 36)).drew.ownsRow w.heap.size 36 3 (.slice (some ⟨w.heap.size, 0, none⟩) 0 0) 0 [] := World.ownsRow_made w #[] 0 (Nat.le_refl _) (by unfold maxLen; omega) rfl
  have hB1 : Below w.heap.size w (w.alloc (.cells #[] 36)).drew := ((Below.refl _ _).alloc (Nat.le_refl _) _).drew
  have hrow1 := (h.below hB1).1
  rw [hn.out] at hrow1
  obtain ⟨ad, had, hdrop⟩ : ∃ ad, (if cap = i + 1 then some (⟨g, 0, none⟩ : Addr) else some ⟨g, (i + 1) * 3, none⟩) = some ad ∧ ∀ wx, Below w.heap.size w wx → ∀ j u, (rcells (Q.drop (i + 1)))[j]? = some u → wx.cell? (ad.add j) = some u := by
    by_cases hc : cap = i + 1
    · refine ⟨_, if_pos hc, fun wx hb j u hj => ?_⟩
      have e : rcells (Q.drop (i + 1)) = [] := by rw [List.drop_eq_nil_of_le (by rw [hn.out]; omega)]; rfl
      rw [e] at hj
      simp at hj
    · refine ⟨_, if_neg hc, fun wx hb j u hj => ?_⟩
      have hr := (h.below hb).1
      rw [hn.out] at hr
      exact rcells_drop_news (by rw [hn.out]; omega) hr j u hj
  have HAD := keptH had
  have HDR := keptH hdrop
  clear had hdrop
  have H1 := keptH (rcells_take_news (i := i) hrow1)
  have HOV := keptH hownv
  have HB1 := keptH hB1
  have H := keptH h
  have b1 : (0 : Int) ≤ (i : Int) := by omega
  have b2 : (i : Int) ≤ (cap : Int) := by omega
  have b3 : (0 : Int) ≤ (i : Int) + 1 := by omega
  have b4 : (i : Int) + 1 ≤ (n : Int) := by omega
  have b5 : (n : Int) ≤ (cap : Int) := by omega
  have u1 : IntKind.i64.wrap ((i : Int) + 1) = (i : Int) + 1 := IntWalk.i64_in _ (by omega)
  have u2 : ((i : Int) + 1).toNat = i + 1 := by omega
  have z1 : i ≤ maxLen := by unfold maxLen; omega
  have z2 : i + (n - 1 - i) ≤ maxLen := by unfold maxLen; omega
  have z3 : i * 48 ≤ 140737488355328 := by omega
  have z4 : (i + (n - 1 - i)) * 48 ≤ 140737488355328 := by omega
  have z5 : n - (i + 1) = n - 1 - i := by omega
  have ZZ := keptH (And.intro z1 (And.intro z2 (And.intro z3 (And.intro z4 z5))))
  clear h hrow hrow1 hownv hB1 z1 z2 z3 z4 z5
  go_enter Try.func42, Try.ntmps42
  go_wp2_with fail
  go_region_law (first | (refine step_of (by rfl) ?_; refine wp_append_own _ (.tmp 5) (.tmp 8) 23 rfl w.heap.size 36 i0 (.agg #[.string ⟨#[]⟩, .slice none 0 0, .int .i64 0]) 3 48 Try.underlying23 hi0 hz0 hz1 hz2 rfl (by decide) (.slice (some ⟨w.heap.size, 0, none⟩) 0 0) 0 [] rfl HOV.out ⟨g, 0, none⟩ i cap (rcells (Q.take i)) rfl hl1.out H1.out ho1.out (by simp only [Nat.zero_add]; exact ZZ.out.1) (by simp only [Nat.zero_add]; exact ZZ.out.2.2.1) (HB1.out.size) ?_; intro v2 w2 hown2 hgrow2 hnil2; have hb2 : Below w.heap.size w w2 := HB1.out.grown hgrow2 HB1.out.size (by simp [Value.ownBlock]); have HOV2 := keptH hown2; have HB2 := keptH hb2; have HN2 : Hid (v2 ≠ .slice none 0 0) := (show v2 ≠ .slice none 0 0 from fun e => by have := (hnil2.1 e).1; simp at this); clear hown2 hb2 hgrow2 hnil2 HOV H1) | (refine step_of (by rfl) ?_; refine wp_append_own _ (.tmp 9) (.tmp 13) 23 rfl w.heap.size 36 i0 (.agg #[.string ⟨#[]⟩, .slice none 0 0, .int .i64 0]) 3 48 Try.underlying23 hi0 hz0 hz1 hz2 rfl (by decide) v2 (0 + i) _ rfl HOV2.out ad (n - 1 - i) (cap - (i + 1)) (rcells (Q.drop (i + 1))) (by show Value.slice (if cap = i + 1 then some (⟨g, 0, none⟩ : Addr) else some ⟨g, (i + 1) * 3, none⟩) (n - (i + 1)) (cap - (i + 1)) = _; rw [HAD.out, ZZ.out.2.2.2.2]) hl2.out (HDR.out _ HB2.out) ho2.out (by simp only [Nat.zero_add]; exact ZZ.out.2.1) (by simp only [Nat.zero_add]; exact ZZ.out.2.2.2.1) (HB2.out.size) ?_; intro v3 w3 hown3 hgrow3 hnil3))
  have hnn : v3 ≠ .slice none 0 0 := fun e => HN2.out (hnil3.1 e).1
  have hB3 : Below w.heap.size w w3 := HB2.out.grown hgrow3 HB2.out.size (fun k hk => (HOV2.out.lt k hk).1)
  have hN : 0 + i + (n - 1 - i) = n - 1 := by omega
  rw [hN, List.nil_append, ← rcells_app] at hown3
  obtain ⟨g', c', hv3⟩ : ∃ g' c', v3 = .slice (some ⟨g', 0, none⟩) (n - 1) c' := by
    rcases hown3.2 with ⟨e, _⟩ | ⟨g2, c', cur, e, _⟩
    · exact absurd e hnn
    · exact ⟨g2, c', e⟩
  subst hv3
  have hlen : (wout Q i).length = n - 1 := by
    unfold wout
    rw [List.length_append, List.length_take, List.length_drop, hn.out, Nat.min_eq_left (by omega)]
    omega
  have hT : TabOwn w3 S (.slice (some ⟨g', 0, none⟩) (n - 1) c') (wout Q i) := by
    refine ⟨?_, fun q hq => ?_, g', c', by rw [hlen]⟩
    · rw [hlen]
      exact World.ownsRow.mono hown3 hS
    · have hq' := H.out.2.1 q (wout_mem hq)
      exact ⟨hq'.1.below hB3, hq'.2⟩
  have FIN := keptH (And.intro hT hB3)
  clear hown3 hgrow3 hnil3 hT hB3 hlen hN hnn HOV2 HB2 HAD HDR H
  go_wp2
  all_goals
    go_ret
    exact ⟨g', c', rfl, FIN.out.1, FIN.out.2⟩
end Go.Proofs.Ytnahamhjcdkkkaa


/- FnRulesAtLess: its walk. -/
namespace Go.Proofs.Ytnahamhjcdkkkaa
open Go.RowKit

theorem equalInts_alike (w : World) (u v : Value) (xs : List Int) (hx : IntsAt w u xs) (hy : IntsAt w v xs) :
    Calls Try.prog 35 #[u, v] w fun e w' => e = .returned (.bool true) ∧ Below w.heap.size w w' := by
  have := equalInts_any w u v xs xs hx hy
  rw [decide_eq_true rfl] at this
  exact this
theorem wpList_append_ints {ops : Array Oper} {rest : List Oper} {o : Oper} {a : Act} {w : World} {Q : Exit → Act → World → Prop} (hgd : o.guard = none) (s x : Operand)
    (ho : o.op = .call { callee := .builtin .append, args := #[s, x], argTypes := #[31, 31] }) (base B2 : Nat) {v u : Value} {xs ys : List Int} (hs : a.eval s = v) (hx : a.eval x = u)
    (h1 : OwnInts w base v xs) (h2 : OwnInts w B2 u ys) (hl : xs.length + ys.length ≤ 1000000) (hbase : base ≤ w.heap.size)
    (h : ∀ v' w', OwnInts w' base v' (xs ++ ys) → w.grownBy w' v.ownBlock → wpList Try.prog ops Q rest (a.put o.dst v') w') : wpList Try.prog ops Q (o :: rest) a w := by
  obtain ⟨i0, hi, hz0, hz1, hz2⟩ := info_parts infoInt
  have hx2 := h2.at
  rcases h2.2 with ⟨e, hn⟩ | ⟨g, cap, cur, e, _⟩
  · have hy : ys = [] := List.length_eq_zero_iff.1 hn
    subst hy
    subst e
    exact wpList_append_own_none hgd s x 31 ho base 3 i0 1 Try.underlying31 hi v _ (ints xs) hs h1 hx (h v w (by rw [List.append_nil]; exact h1) (World.grownBy.refl w _))
  · subst e
    refine wpList_append_own w hgd s x 31 ho base 3 i0 (.int .i64 0) 1 8 Try.underlying31 hi hz0 hz1 hz2 rfl (by decide) v xs.length (ints xs) hs h1 ⟨g, 0, none⟩ ys.length cap (ints ys) hx (by rw [ints_length, Nat.mul_one]) hx2.news (ints_oneCell' ys) (by unfold maxLen; omega) (by omega) hbase ?_
    intro v' w' hown' hgrow _
    have hO := OwnInts.addAll' hown' rfl
    exact h v' w' hO hgrow

theorem TableAt.takeN {w : World} {g n c k : Nat} {T : List PRule} (h : TableAt w (.slice (some ⟨g, 0, none⟩) n c) T) (hn : T.length = n) (hk : k ≤ n) : TableAt w (.slice (some ⟨g, 0, none⟩) k c) (T.take k) := by
  obtain ⟨a, cp, e, x1, x2, x3⟩ := h
  injection e with e1 e2 e3
  subst e1 e3
  have hl : (T.take k).length = k := by simp; omega
  refine ⟨_, c, by rw [hl], by omega, x2, ?_⟩
  rcases x3 with rfl | ⟨g', off, e, x3⟩
  · exact .inl (by simp)
  · refine .inr ⟨g', off, e, fun i hi => ?_⟩
    rw [takeD (by omega)]
    exact x3 i (by omega)
theorem rulesTo_take (T : List PRule) (s : ByteArray) (p : Int) (m : Nat) : ∀ k, k ≤ m → rulesTo (T.take m) s p k = rulesTo T s p k := by
  intro k
  induction k with
  | zero => intro _; rfl
  | succ k ih =>
    intro hk
    show rulesTo (T.take m) s p k ++ _ = rulesTo T s p k ++ _
    rw [ih (by omega), takeD (by omega)]
theorem rulesTo_lt {T : List PRule} {s : ByteArray} {p : Int} : ∀ (k : Nat) {z : Int}, z ∈ rulesTo T s p k → z < k := by
  intro k
  induction k with
  | zero => intro z h; exact absurd h (by simp [rulesTo])
  | succ k ih =>
    intro z h
    rcases List.mem_append.1 h with h | h
    · have := ih h; omega
    · split at h
      · simp at h; omega
      · simp at h
theorem validTb_take {T : List PRule} (h : ValidTb T) (k : Nat) (hk : k ≤ T.length) : ValidTb (T.take k) := by
  have hl : (T.take k).length = k := by simp; omega
  refine ⟨by have := h.1; omega, fun i hi => ?_, fun i j hi hj => ?_⟩
  · rw [takeD (by omega)]; exact h.2.1 i (by omega)
  · rw [takeD (by omega), takeD (by omega)]; exact h.2.2 i j (by omega) hj
theorem fits_take {T : List PRule} (h : TableFits T) (k : Nat) : TableFits (T.take k) := fun x hx => h x (List.mem_of_mem_take hx)

end Go.Proofs.Ytnahamhjcdkkkaa


/- The draw of RulesAt: a table, a word, a place. -/
namespace Go.Proofs.Ytnahamhjcdkkkaa
open Go.RowKit

def txtW : List ByteArray := [⟨#[]⟩, ⟨#[84, 104, 101]⟩, ⟨#[97, 32, 98]⟩, ⟨#[97, 98, 99, 100, 101, 102, 103, 104, 105, 106, 107, 108, 109, 110, 111, 112, 113]⟩, ⟨#[97, 98, 99, 100, 101, 102, 103, 104, 105, 106, 107, 108, 109, 110, 111, 112]⟩, ⟨#[49]⟩, ⟨#[105, 116, 39, 115]⟩]
def txtS : List ByteArray := [⟨#[116, 104, 101]⟩, ⟨#[116, 104, 101, 110]⟩, ⟨#[111, 116, 104, 101, 114]⟩, ⟨#[97, 110, 100]⟩, ⟨#[115, 97, 110, 100]⟩, ⟨#[102, 105, 110, 103, 101, 114]⟩, ⟨#[114, 105, 110, 103]⟩, ⟨#[98, 117, 116]⟩, ⟨#[98]⟩, ⟨#[99, 97, 110]⟩, ⟨#[99, 97, 110, 110, 111, 116]⟩, ⟨#[100, 111]⟩, ⟨#[100, 111, 105, 110, 103]⟩, ⟨#[115, 116, 114, 105, 110, 103]⟩, ⟨#[116, 104, 105, 110, 103]⟩, ⟨#[119, 104, 101, 110]⟩, ⟨#[102, 97, 116, 104, 101, 114]⟩, ⟨#[115, 104, 101, 100]⟩, ⟨#[98, 101, 100]⟩, ⟨#[105, 110]⟩, ⟨#[105, 110, 103, 101, 115, 116]⟩, ⟨#[116, 104, 101, 116, 104, 101]⟩, ⟨#[97, 110, 100, 101, 114]⟩, ⟨#[97]⟩, ⟨#[106, 107, 122]⟩, ⟨#[99, 104, 101, 115, 116]⟩, ⟨#[116, 104, 105, 110]⟩, ⟨#[119, 105, 110, 101]⟩]
set_option maxHeartbeats 400000 in
theorem someWord_any (w : World) (B R L p : Nat) (h : RD w B R L p) (hp : p ≤ 100000000000) :
    Calls Try.prog 77 #[.pointer (some ⟨R, 0, none⟩)] w fun e w' => TextDrawn 17 1 w B R L p e w' := by
  have hR := h.lt
  go_enter Try.func77, Try.ntmps77
  go_wp2_with fail
  refine (of_any (w.alloc (.cells (strs txtS) 9)) B R L p w.heap.size 28 28 txtS (h.alloc _) (heap_alloc_new w _) (by omega) (Lib.hid rfl) (by omega) (by omega) (by omega)).mono ?_
  rintro e w1 ⟨t, rfl, ht, hrd1, hgr1⟩
  have ht2 : t.size ≤ 17 := small_strs (by decide) ht
  have FIN := keptH (And.intro hrd1 (grown_trans (World.grownBy_alloc w (.cells (strs txtS) 9) (some R)) hgr1))
  clear ht hrd1 hgr1
  go_wp2
  go_ret
  exact ⟨t, p + 1, rfl, ht2, FIN.out.1, by omega, FIN.out.2⟩
set_option maxHeartbeats 400000 in
theorem anyWord_any (w : World) (B R L p : Nat) (h : RD w B R L p) (hp : p ≤ 10000000000) :
    Calls Try.prog 47 #[.pointer (some ⟨R, 0, none⟩)] w fun e w' => TextDrawn 17 2 w B R L p e w' := by
  have hR := h.lt
  go_enter Try.func47, Try.ntmps47
  go_wp2_with fail
  refine (pick_any w B R L p _ h (by omega) (by omega) (by omega)).mono ?_
  rintro e w1 ⟨k, rfl, hk, hrd, hgr⟩
  have hl1 := hrd.lt
  by_cases k0 : k = 0
  · subst k0
    go_wp2_with fail
    refine (of_any (w1.alloc (.cells (strs txtW) 9)) B R L (p + 1) w1.heap.size 7 7 txtW (hrd.alloc _) (heap_alloc_new w1 _) (by omega) (Lib.hid rfl) (by omega) (by omega) (by omega)).mono ?_
    rintro e w2 ⟨t, rfl, ht, hrd2, hgr2⟩
    have ht2 : t.size ≤ 17 := small_strs (by decide) ht
    have FIN := keptH (And.intro hrd2 (grown_trans hgr (grown_trans (World.grownBy_alloc w1 (.cells (strs txtW) 9) (some R)) hgr2)))
    clear ht hrd2 hgr2
    go_wp2
    go_ret
    exact ⟨t, _, rfl, ht2, FIN.out.1, by omega, FIN.out.2⟩
  · have e0 : ((k : Int) == 0) = false := by simp; omega
    go_wp2_with fail
    refine (someWord_any w1 B R L (p + 1) hrd (by omega)).mono ?_
    rintro e w2 ⟨t, q, rfl, ht2, hrd2, hq, hgr2⟩
    have FIN := keptH (And.intro hrd2 (grown_trans hgr hgr2))
    clear hrd2 hgr2
    go_wp2
    go_ret
    exact ⟨t, _, rfl, ht2, FIN.out.1, by omega, FIN.out.2⟩

theorem results_three {fn : Func} {t u v : Tmp} (h : fn.results = #[.tmp t, .tmp u, .tmp v]) (tmps : Array Value) (P : Program) (w : World) :
    (results fn tmps).run P w = .ok (.tuple #[tmps.getD t undef, tmps.getD u undef, tmps.getD v undef]) w := by
  simp [results, h]
/-- a drawn table, a word and a place -/
def RaMade (w : World) (e : Ending) (w' : World) : Prop :=
  ∃ S g n cap Q s p, e = .returned (.tuple #[.slice (some ⟨g, 0, none⟩) n cap, .string s, .int .i64 p]) ∧ TabOwn w' S (.slice (some ⟨g, 0, none⟩) n cap) Q ∧ Hid (Q.length = n) ∧ TableFits (tabOf Q) ∧ n ≤ 9 ∧ S ≤ w'.heap.size ∧ Below w.heap.size w w' ∧ ByteArray.size s ≤ 17 ∧ -1 ≤ p ∧ p ≤ 17
end Go.Proofs.Ytnahamhjcdkkkaa


/- The draw of pieces. -/
namespace Go.Proofs.Ytnahamhjcdkkkaa
open Go.RowKit

/-- small numbers in a piece -/
def PcLow (p : PPiece) : Prop := -2 ≤ p.r ∧ p.r ≤ 20 ∧ 0 ≤ p.f ∧ p.f ≤ 100 ∧ 0 ≤ p.t ∧ p.t ≤ 101
def PcMid (p : PPiece) : Prop := -2 ≤ p.r ∧ p.r ≤ 20 ∧ 0 ≤ p.f ∧ p.f ≤ 100 ∧ 0 ≤ p.t ∧ p.t ≤ 102
theorem PcLow.mid {p : PPiece} (h : PcLow p) : PcMid p := ⟨h.1, h.2.1, h.2.2.1, h.2.2.2.1, h.2.2.2.2.1, by have := h.2.2.2.2.2; omega⟩
def PcDrawn (w : World) (B R L p : Nat) (e : Ending) (w' : World) : Prop :=
  ∃ v P q, e = .returned v ∧ PiecesAt w' v P ∧ Hid (∀ x ∈ P, PcMid x) ∧ P.length ≤ 40 ∧ RD w' B R L q ∧ q ≤ p + 100 ∧ w.grownBy w' (some R)
theorem s_validWord_b (s : ByteArray) (b : Bool) (w : World) (hs : s.size ≤ 9223372036854775807) (hb : Hid (decide (WordB 16 s.data.toList) = b)) :
    Calls Try.prog 54 #[.string s] w fun e w' => e = .returned (.bool b) ∧ w = w' := by
  have := s_validWord s w hs
  rw [hb.out] at this
  exact this
set_option maxRecDepth 20000 in
set_option maxHeartbeats 8000000 in
theorem anyPieces_any (w : World) (B R L p g n c : Nat) (T : List PRule) (s : ByteArray) (h : RD w B R L p) (hp : p ≤ 10000000) (hx : TableAt w (.slice (some ⟨g, 0, none⟩) n c) T) (S : Nat) (Q : List (PRule × Value)) (hT : TabOwn w S (.slice (some ⟨g, 0, none⟩) n c) Q) (hRS : R < S) (hTQ : Hid (tabOf Q = T)) (hn : T.length = n) (hf : TableFits T) (hs : s.size ≤ 17) :
    Calls Try.prog 93 #[.pointer (some ⟨R, 0, none⟩), .slice (some ⟨g, 0, none⟩) n c, .string s] w fun e w' => PcDrawn w B R L p e w' := by
  have hR := h.lt
  have HN := Lib.hid hn
  obtain ⟨b, HB⟩ : ∃ b : Bool, Hid (b = true ↔ ValidTb T) := by
    by_cases hv : ValidTb T
    · exact ⟨true, show _ ↔ _ from ⟨fun _ => hv, fun _ => rfl⟩⟩
    · exact ⟨false, show _ ↔ _ from ⟨fun e => by simp at e, fun e => absurd e hv⟩⟩
  obtain ⟨bw, hbw⟩ : ∃ bw, decide (WordB 16 s.data.toList) = bw := ⟨_, rfl⟩
  have HBW := Lib.hid hbw
  have hx1 := hx.below (Below.alloc (Below.refl _ _) (Nat.le_refl _) (.cells #[] 30))
  have hB1 : Below w.heap.size w (w.alloc (.cells #[] 30)) := (Below.refl _ _).alloc (Nat.le_refl _) _
  have hO1 := OwnPc.made w w.heap.size (Nat.le_refl _)
  have HT := keptH hT
  clear hbw hx hn hT
  go_enter Try.func93, Try.ntmps93
  go_wp2_with fail
  refine (s_validTable _ _ T b hx1 hf HB).mono ?_
  rintro e w2 ⟨rfl, hb2⟩
  have hB2 := below_next hB1 hb2
  have hO2 := hO1.below hb2
  clear hx1 hB1 hO1 hb2
  cases b with
  | false =>
    have hG2 := grownB hB2
    have FIN := keptH (And.intro hO2.at (And.intro (h.grown hG2) hG2))
    clear hO2 hB2 hG2 h
    go_wp2
    go_ret
    exact ⟨_, [], p, rfl, FIN.out.1, fun x hx => absurd hx (by simp), by simp, FIN.out.2.1, by omega, grown_none FIN.out.2.2 _⟩
  | true =>
    have HV : Hid (ValidTb T) := HB.out.1 rfl
    clear HB
    go_wp2_with fail
    refine (s_validWord_b s bw w2 (by omega) HBW).mono ?_
    rintro e w' ⟨rfl, rfl⟩
    cases bw with
    | false =>
      have hG2 := grownB hB2
      have FIN := keptH (And.intro hO2.at (And.intro (h.grown hG2) hG2))
      clear hO2 hB2 hG2 h
      go_wp2
      go_ret
      exact ⟨_, [], p, rfl, FIN.out.1, fun x hx => absurd hx (by simp), by simp, FIN.out.2.1, by omega, grown_none FIN.out.2.2 _⟩
    | true =>
      have hw : WordB 16 s.data.toList := of_decide_eq_true HBW.out
      have hs1 : 1 ≤ s.size ∧ s.size ≤ 16 := by have := hw.1; have := hw.2.1; have := wd_size s; omega
      clear hw HBW
      have hG2 := grownB hB2
      have hs2 := hB2.size
      have START := keptH (And.intro hO2 (And.intro (h.grown hG2) hG2))
      clear hO2 hB2 hG2 h
      go_wp2_with fail
      go_loopw [7, 8] (fun o i wr => ∃ (at_ q : Nat) (P : List PPiece), at_ ≤ 22 ∧ i = .int .i64 at_ ∧ OwnPc wr w.heap.size o P ∧ P.length ≤ at_ ∧ (1 ≤ at_ → 1 ≤ P.length) ∧ Hid (∀ x ∈ P, PcLow x) ∧ RD wr B R L q ∧ q ≤ p + at_ ∧ w.grownBy wr (some R)) (fun _ i _ => 100 - (intOf i).toNat)
      case atStart => exact ⟨0, p, [], by omega, rfl, START.out.1, by simp, fun h => by omega, fun x hx => absurd hx (by simp), START.out.2.1, by omega, grown_none START.out.2.2 _⟩
      case round =>
        obtain ⟨k, q, P, hk, rfl, hO, hPl, hP1, hPc, hrd, hq, hG⟩ := hrel
        by_cases hlt : k < s.size
        · have hxr : TableAt wr (.slice (some ⟨g, 0, none⟩) n c) T := by
            have := (HT.out.overR hG hRS).at
            rw [hTQ.out] at this
            exact this
          have hRr := hrd.lt
          go_wp2_with fail
          refine (choices_any wr g n c T s k hxr HN.out HV (by omega)).mono ?_
          rintro e w3 ⟨v3, P3, rfl, hO3, hl1, hl2, hP3, hb3⟩
          obtain ⟨g3, c3, hv3⟩ := hO3.2
          obtain ⟨n3, hn3⟩ : ∃ n3, P3.length = n3 := ⟨_, rfl⟩
          rw [hn3] at hv3 hl1 hl2
          have HN3 := Lib.hid hn3
          clear hn3
          subst hv3
          have hrd3 := hrd.grown (grownB hb3)
          have hO4 := hO.below hb3
          have hG3 := grown_trans hG (grown_none (grownB hb3) (some R))
          clear hxr hb3 hrd hO hG
          go_wp2_with fail
          refine (pick_any w3 B R L q _ hrd3 (by omega) (by omega) (by omega)).mono ?_
          rintro e w4 ⟨i, rfl, hi, hrd4, hgr4⟩
          have hO5 := hO3.overR hgr4 hRr
          have hin : i < n3 := by omega
          obtain ⟨f0, f1, f2⟩ := pcells_at P3 i (by rw [HN3.out]; exact hin)
          have hcl := hO5.1
          rw [HN3.out] at hcl
          have e0 := (hcl.cellAt (i * 3) (by omega)).trans f0
          have e1 := (hcl.cellAt (i * 3 + 1) (by omega)).trans f1
          have e2 := (hcl.cellAt (i * 3 + 2) (by omega)).trans f2
          have hpx : PcOf k (P3.getD i noP) := hP3.out _ (by rw [List.getD_eq_getElem?_getD, List.getElem?_eq_getElem (by rw [HN3.out]; exact hin), Option.getD_some]; exact List.getElem_mem _)
          clear f0 f1 f2 hcl
          generalize P3.getD i noP = x at e0 e1 e2 hpx
          obtain ⟨r, f, t⟩ := x
          obtain ⟨x0, x1, x2, x3, x4⟩ := hpx
          simp only at e0 e1 e2 x0 x1 x2 x3 x4
          subst x2
          have hO6 := hO4.overR hgr4 (by omega)
          have hG4 := grown_trans hG3 hgr4
          have HO6 := keptH hO6
          have HG4 := keptH hG4
          have HRD4 := keptH hrd4
          clear hO3 hO5 hP3 hO4 hG3 hrd3 hgr4 hO6 hG4 hrd4 hP1
          obtain ⟨t', rfl⟩ : ∃ t' : Nat, t = t' := ⟨t.toNat, by omega⟩
          have b1 : (0 : Int) ≤ (i : Int) := by omega
          have b2 : (i : Int) < (n3 : Int) := by omega
          have hal1 := Below.alloc (Below.refl w4.heap.size w4) (Nat.le_refl _) (.cells #[.int .i64 r, .int .i64 (k : Int), .int .i64 (t' : Int)] 30)
          have hO7 := HO6.out.below hal1
          have hO8 := hO7.below (Below.alloc (Below.refl _ _) (Nat.le_refl _) (.cells #[.int .i64 r, .int .i64 (k : Int), .int .i64 (t' : Int)] 30))
          have hA8 := pieceAt_alloc (w4.alloc (.cells #[.int .i64 r, .int .i64 (k : Int), .int .i64 (t' : Int)] 30)) ⟨r, (k : Int), (t' : Int)⟩
          rw [World.size_alloc] at hA8
          have hblk : Hid (((w4.alloc (.cells #[.int .i64 r, .int .i64 (k : Int), .int .i64 (t' : Int)] 30)).alloc (.cells #[.int .i64 r, .int .i64 (k : Int), .int .i64 (t' : Int)] 30)).heap[w4.heap.size]? = some (.cells #[.int .i64 r, .int .i64 (k : Int), .int .i64 (t' : Int)] 30 (0, 0))) := by
            show _ = _
            rw [Below.heap_alloc _ _ _ (by rw [World.size_alloc]; omega)]
            exact heap_alloc_new w4 _
          have hsz4 := HG4.out.size
          have HO8 := keptH hO8
          have HA8 := keptH hA8
          clear hal1 hO7 hO8 hA8
          go_wp2_with (at_builtin; go_loud (refine wpList_append_piece rfl _ _ rfl w.heap.size (w4.heap.size + 1) ⟨r, (k : Int), (t' : Int)⟩ rfl rfl HO8.out HA8.out (by omega) (by simp; omega) ?_))
          intro v5 w5 hO9 hg9
          have hG9 : w.grownBy w5 (some R) := grown_own (grown_own (grown_own HG4.out (World.grownBy_alloc w4 _ none) (by simp)) (World.grownBy_alloc _ _ none) (by simp)) hg9 (fun q hq => (HO8.out.1.lt q hq).1)
          have hrd9 : RD w5 B R L (q + 1) := ((HRD4.out.alloc _).alloc _).over (S := w.heap.size) hg9 (fun q hq => (HO8.out.1.lt q hq).1) hR
          have e9 : w5.cell? ⟨w4.heap.size, 2, none⟩ = some (.int .i64 (t' : Int)) := by
            rw [cell_of_row w5 w4.heap.size 2 _ _ _ ((hg9.block w4.heap.size (by simp; omega) (fun e => by have := (HO6.out.1.lt _ e.symm).2; omega)).trans hblk.out)]
            rfl
          have HP9 : Hid (∀ x ∈ P ++ [⟨r, (k : Int), (t' : Int)⟩], PcLow x) := by
            intro x hx
            rcases List.mem_append.1 hx with hx | hx
            · exact hPc.out x hx
            · simp at hx
              subst hx
              exact ⟨by simp only; omega, by simp only; omega, by simp only; omega, by simp only; omega, by simp only; omega, by simp only; omega⟩
          have NXT := keptH (And.intro hO9 (And.intro hrd9 hG9))
          clear hO9 hrd9 hG9 hg9 hblk HO8 HA8 e0 e1 e2
          go_wp2
          go_roundw
          case rel => exact ⟨t', q + 1, _, by omega, rfl, NXT.out.1, by simp; omega, by simp, HP9, NXT.out.2.1, by omega, NXT.out.2.2⟩
          case measure => simp [intOf]; omega
        · have HP1 := keptH (hP1 (by omega))
          have HOO := keptH hO
          have HGG := keptH hG
          have hRr := hrd.lt
          have hsr := hG.size
          obtain ⟨gp, cp, hvp⟩ := hO.2
          obtain ⟨m, hm⟩ : ∃ m, P.length = m := ⟨_, rfl⟩
          rw [hm] at hvp hPl
          have HM := Lib.hid hm
          have hm1 : 1 ≤ m := by have := HP1.out; omega
          subst hvp
          clear hm hP1 hO hG HP1
          go_wp2_with fail
          refine (pick_any wr B R L q _ hrd (by omega) (by omega) (by omega)).mono ?_
          rintro e w5 ⟨d8, rfl, hd8, hrd5, hgr5⟩
          have hO5 := HOO.out.overR hgr5 hR
          have hG5 := grown_trans HGG.out hgr5
          clear hgr5 hrd HOO HGG
          by_cases d0 : d8 = 0
          · subst d0
            go_wp2_with fail
            refine (pick_any w5 B R L (q + 1) _ hrd5 (by omega) (by omega) (by omega)).mono ?_
            rintro e w6 ⟨i, rfl, hi, hrd6, hgr6⟩
            have hO6 := hO5.overR hgr6 hR
            have hG6 := grown_trans hG5 hgr6
            clear hgr6 hrd5 hO5 hG5
            go_wp2_with fail
            refine (pick_any w6 B R L (q + 1 + 1) _ hrd6 (by omega) (by omega) (by omega)).mono ?_
            rintro e w7 ⟨d, rfl, hd, hrd7, hgr7⟩
            have hO7 := hO6.overR hgr7 hR
            have hG7 := grown_trans hG6 hgr7
            have hs7 := hG7.size
            have hgp := hO7.1.lt gp rfl
            clear hgr7 hrd6 hO6 hG6
            have him : i < m := by omega
            have hiP : i < P.length := by rw [HM.out]; exact him
            have b1 : (0 : Int) ≤ (i : Int) := by omega
            have b2 : (i : Int) < (m : Int) := by omega
            have hgd : P.getD i noP ∈ P := by rw [List.getD_eq_getElem?_getD, List.getElem?_eq_getElem hiP, Option.getD_some]; exact List.getElem_mem _
            have HLO := keptH (hPc.out _ hgd)
            clear hgd
            by_cases c0 : d = 0
            · subst c0
              have hm0 : w7.heap.size < w7.heap.size + 1 := by omega
              have hrl := hrd7.lt
              go_wp2_with fail
              refine (one_any (w7.alloc (.cells #[.int .i64 (-1), .int .i64 0, .int .i64 1, .int .i64 20, .int .i64 (-2)] 3)) B R L (q + 1 + 1 + 1) w7.heap.size 5 5 [-1, 0, 1, 20, -2] (hrd7.alloc _) (heap_alloc_new w7 _) (by omega) (Lib.hid rfl) (by omega) (by omega) (by omega)).mono ?_
              rintro e w8 ⟨z, rfl, hz, hrd8, hgr8⟩
              have hz' : -2 ≤ z ∧ z ≤ 20 := by simp at hz; omega
              have hO8 := (hO7.below (Below.alloc (Below.refl _ _) (Nat.le_refl _) _)).overR hgr8 hR
              have hG8 := grown_trans hG7 (grown_trans (World.grownBy_alloc w7 _ _) hgr8)
              have e6 := (hO8.cell3 hiP).1
              have f6 := (hO8.cell3 hiP).2.2.2 (i * 3)
              have hO9 := hO8.setR hiP z
              have hG9 := grown_own hG8 (grown_store w8 gp (i * 3) (.int .i64 z)) (fun x hx => by injection hx with hx; omega)
              have hrd9 := hrd8.over (S := w.heap.size) (grown_store w8 gp (i * 3) (.int .i64 z)) (fun x hx => by injection hx with hx; omega) hR
              have FIN := keptH (And.intro hO9.at (And.intro hrd9 hG9))
              have HP9 : Hid (∀ x ∈ P.set i ⟨z, (P.getD i noP).f, (P.getD i noP).t⟩, PcLow x) := by
                intro x hx
                rcases List.mem_or_eq_of_mem_set hx with hx | rfl
                · exact hPc.out x hx
                · have := HLO.out; exact ⟨by simp only; omega, by simp only; omega, this.2.2.1, this.2.2.2.1, this.2.2.2.2.1, this.2.2.2.2.2⟩
              clear hO7 hG7 hrd7 hz hrd8 hgr8 hO8 hG8 hO9 hG9 hrd9
              go_wp2
              go_ret
              exact ⟨_, _, _, rfl, FIN.out.1, fun x hx => (HP9.out x hx).mid, by rw [List.length_set, HM.out]; omega, FIN.out.2.1, by omega, FIN.out.2.2⟩
            · have y0 : ((d : Int) == 0) = false := by simp; omega
              by_cases c1 : d = 1
              · subst c1
                obtain ⟨e6, e7, e8, hfr⟩ := hO7.cell3 hiP
                have f8 := hfr (i * 3 + 2)
                obtain ⟨x, hx⟩ : ∃ x, P.getD i noP = x := ⟨_, rfl⟩
                have HXx := Lib.hid hx
                rw [hx] at e6 e7 e8 HLO
                clear hx hfr
                obtain ⟨r, f, t⟩ := x
                have ht := HLO.out
                simp only at e6 e7 e8
                have ht1 : 0 ≤ t := ht.2.2.2.2.1
                have ht2 : t ≤ 101 := ht.2.2.2.2.2
                have u2 : IntKind.i64.wrap (t + 1) = t + 1 := IntWalk.i64_in _ (by omega)
                have hO9 := hO7.setT hiP (t + 1)
                have hG9 := grown_own hG7 (grown_store w7 gp (i * 3 + 2) (.int .i64 (t + 1))) (fun x hx => by injection hx with hx; omega)
                have hrd9 := hrd7.over (S := w.heap.size) (grown_store w7 gp (i * 3 + 2) (.int .i64 (t + 1))) (fun x hx => by injection hx with hx; omega) hR
                have FIN := keptH (And.intro hO9.at (And.intro hrd9 hG9))
                have HP9 : Hid (∀ x ∈ P.set i ⟨(P.getD i noP).r, (P.getD i noP).f, t + 1⟩, PcMid x) := by
                  intro x hx
                  rcases List.mem_or_eq_of_mem_set hx with hx | rfl
                  · exact (hPc.out x hx).mid
                  · rw [HXx.out]; exact ⟨ht.1, ht.2.1, ht.2.2.1, ht.2.2.2.1, by simp only; omega, by simp only; omega⟩
                clear hO7 hG7 hrd7 hO9 hG9 hrd9 ht
                go_wp2
                go_ret
                exact ⟨_, _, _, rfl, FIN.out.1, HP9, by rw [List.length_set, HM.out]; omega, FIN.out.2.1, by omega, FIN.out.2.2⟩
              · have y1 : ((d : Int) == 1) = false := by simp; omega
                by_cases c2 : d = 2
                · subst c2
                  have hPA := hO7.at.takeN HM.out (k := i) (by omega)
                  have hcp : m ≤ cp ∧ cp ≤ 9223372036854775807 := by
                    obtain ⟨_, _, e, y1, y2, _⟩ := hO7.at
                    injection e with _ e2 e3
                    have := HM.out
                    subst e3
                    omega
                  have b3 : (i : Int) ≤ (cp : Int) := by omega
                  have FIN := keptH (And.intro hPA (And.intro hrd7 hG7))
                  clear hPA hrd7 hG7 hO7
                  go_wp2
                  go_ret
                  exact ⟨_, P.take i, _, rfl, FIN.out.1, fun x hx => (hPc.out x (List.mem_of_mem_take hx)).mid, by rw [List.length_take, HM.out]; omega, FIN.out.2.1, by omega, FIN.out.2.2⟩
                · have y2 : ((d : Int) == 2) = false := by simp; omega
                  have c3 : d = 3 := by omega
                  subst c3
                  obtain ⟨e6, e7, e8, _⟩ := hO7.cell3 hiP
                  obtain ⟨x, hx⟩ : ∃ x, P.getD i noP = x := ⟨_, rfl⟩
                  rw [hx] at e6 e7 e8 HLO
                  clear hx
                  obtain ⟨r, f, t⟩ := x
                  simp only at e6 e7 e8
                  have hA8 := keptH (pieceAt_alloc w7 ⟨r, f, t⟩)
                  have hO8 := keptH (hO7.below (Below.alloc (Below.refl _ _) (Nat.le_refl _) (.cells #[.int .i64 r, .int .i64 f, .int .i64 t] 30)))
                  have HG7 := keptH hG7
                  have HRD7 := keptH hrd7
                  clear hO7 hG7 hrd7
                  go_wp2_with (at_builtin; go_loud (refine wpList_append_piece rfl _ _ rfl w.heap.size w7.heap.size ⟨r, f, t⟩ rfl rfl hO8.out hA8.out (by rw [HM.out]; omega) (by simp; omega) ?_))
                  intro v8 w8 hO9 hg9
                  have hG9 : w.grownBy w8 (some R) := grown_own (grown_own HG7.out (World.grownBy_alloc w7 _ none) (by simp)) hg9 (fun q hq => (hO8.out.1.lt q hq).1)
                  have hrd9 : RD w8 B R L (q + 1 + 1 + 1) := (HRD7.out.alloc _).over (S := w.heap.size) hg9 (fun q hq => (hO8.out.1.lt q hq).1) hR
                  have FIN := keptH (And.intro hO9.at (And.intro hrd9 hG9))
                  have HP9 : Hid (∀ x ∈ P ++ [⟨r, f, t⟩], PcLow x) := by
                    intro x hx
                    rcases List.mem_append.1 hx with hx | hx
                    · exact hPc.out x hx
                    · simp at hx
                      rw [hx]
                      exact HLO.out
                  clear hO9 hG9 hrd9 hg9 hO8 hA8 e6 e7 e8
                  go_wp2
                  go_ret
                  exact ⟨_, _, _, rfl, FIN.out.1, fun x hx => (HP9.out x hx).mid, by rw [List.length_append, HM.out]; simp; omega, FIN.out.2.1, by omega, FIN.out.2.2⟩
          · have y0 : ((d8 : Int) == 0) = false := by simp; omega
            have FIN := keptH (And.intro hO5.at (And.intro hrd5 hG5))
            clear hO5 hrd5 hG5
            go_wp2
            go_ret
            exact ⟨_, P, q + 1, rfl, FIN.out.1, fun x hx => (hPc.out x hx).mid, by rw [HM.out]; omega, FIN.out.2.1, by omega, FIN.out.2.2⟩
end Go.Proofs.Ytnahamhjcdkkkaa


/- The draw of pieces for a law; one piece a letter; a word cut and joined. -/
namespace Go.Proofs.Ytnahamhjcdkkkaa
open Go.RowKit

/-- a drawn table, a word and pieces -/
def VpMade (w : World) (e : Ending) (w' : World) : Prop :=
  ∃ g n cap T s v P, e = .returned (.tuple #[.slice (some ⟨g, 0, none⟩) n cap, .string s, v]) ∧ TableAt w' (.slice (some ⟨g, 0, none⟩) n cap) T ∧ TableFits T ∧ ByteArray.size s ≤ 17 ∧ PiecesAt w' v P ∧ PiecesFit P ∧ P.length ≤ 40 ∧ Below w.heap.size w w'
theorem pcMid_fit {P : List PPiece} (h : ∀ x ∈ P, PcMid x) : PiecesFit P := fun x hx => by
  have := h x hx
  unfold PcMid at this
  unfold PieceFits
  omega
set_option maxHeartbeats 1000000 in
theorem drawValidPieces_any (w : World) (a : Option Addr) (len cap : Nat) (zs : List Int) (h : RowIn .u8 w a len cap zs) :
    Calls Try.prog 66 #[.slice a len cap] w fun e w' => VpMade w e w' := by
  obtain ⟨h1, h2, h3⟩ := bytesAt_of_row h
  clear h
  go_enter Try.func66, Try.ntmps66
  go_wp2_with fail
  refine (newReader_any w _ a len cap h1 (Nat.le_refl _) h2 h3).mono ?_
  rintro e w1 ⟨L, rfl, hrd, hgr⟩
  have hl1 := hrd.lt
  go_wp2_with fail
  refine (anyTable_any w1 _ _ L 0 hrd (by omega)).mono ?_
  rintro e w2 ⟨v, Q, q, rfl, hT, hF, hlen, hrd2, hq, hgr2⟩
  have hl2 := hrd2.lt
  obtain ⟨g, c, hv⟩ := hT.2.2
  subst hv
  go_wp2_with fail
  refine (anyWord_any w2 _ _ L q hrd2 (by omega)).mono ?_
  rintro e w3 ⟨s, q3, rfl, hs, hrd3, hq3, hgr3⟩
  have hT3 := hT.overR hgr3 hl1
  have HG3 := keptH (grown_trans hgr2 hgr3)
  have hx3 := hT3.at
  have HF := keptH hF
  clear hT hgr2 hgr3 hrd hrd2 hF
  go_wp2_with fail
  refine (anyPieces_any w3 _ _ L q3 g _ c (tabOf Q) s hrd3 (by omega) hx3 w1.heap.size Q hT3 hl1 rfl (tabOf_len Q) HF.out hs).mono ?_
  rintro e w4 ⟨v4, P, q4, rfl, hP4, hPm, hPl, hrd4, hq4, hgr4⟩
  have hG4 := grown_trans HG3.out hgr4
  have FIN := keptH (And.intro (hT3.overR hgr4 hl1).at (And.intro hP4 (below_of_grown (grown_new hgr hG4 (Nat.le_refl _)))))
  clear hx3 hT3 hP4 hrd4 hgr4 hG4 HG3 hrd3
  go_wp2
  refine bodyPost_ret (results_three rfl _ _ _) rfl ?_
  exact ⟨g, _, c, tabOf Q, s, v4, P, rfl, FIN.out.1, HF.out, hs, FIN.out.2.1, pcMid_fit hPm.out, hPl, FIN.out.2.2⟩

/-- one piece for each letter -/
def plainP (n : Nat) : List PPiece := (List.range n).map fun i : Nat => ⟨-1, i, (i : Int) + 1⟩
theorem plainP_len (n : Nat) : (plainP n).length = n := by simp [plainP]
theorem plainP_at {n k : Nat} (h : k < n) : (plainP n).getD k noP = ⟨-1, k, (k : Int) + 1⟩ := by simp [plainP, List.getD_eq_getElem?_getD, h]
theorem plainP_snoc (n : Nat) : plainP n ++ [⟨-1, n, (n : Int) + 1⟩] = plainP (n + 1) := by simp [plainP, List.range_succ]
theorem plainP_end (n : Nat) : ∀ k, k ≤ n → endAt (plainP n) k = k := by
  intro k hk
  cases k with
  | zero => rfl
  | succ k => show ((plainP n).getD k noP).t = _; rw [plainP_at (by omega)]; simp
theorem plainP_valid (T : List PRule) (s : ByteArray) : ValidPv T s (plainP s.size) := by
  refine ⟨fun i hi => ?_, ?_⟩
  · rw [plainP_len] at hi
    rw [plainP_at hi, plainP_end _ i (by omega)]
    exact ⟨rfl, by simp only; omega, by simp only; omega, .inl ⟨rfl, rfl⟩⟩
  · rw [plainP_len, plainP_end _ _ (Nat.le_refl _)]
theorem plainP_fit {n : Nat} (hn : n ≤ 1000) : PiecesFit (plainP n) := by
  intro p hp
  simp [plainP] at hp
  obtain ⟨i, hi, rfl⟩ := hp
  unfold PieceFits
  simp only
  omega
set_option maxHeartbeats 1000000 in
theorem plain_any (w : World) (s : ByteArray) (hs : s.size ≤ 1000) :
    Calls Try.prog 32 #[.string s] w fun e w' => ∃ v, e = .returned v ∧ PiecesAt w' v (plainP s.size) ∧ Below w.heap.size w w' := by
  have hO0 := OwnPc.made w w.heap.size (Nat.le_refl _)
  have hB0 : Below w.heap.size w (w.alloc (.cells #[] 30)) := (Below.refl _ _).alloc (Nat.le_refl _) _
  have HO0 := keptH hO0
  have HB0 := keptH hB0
  obtain ⟨n, hn⟩ : ∃ n, s.size = n := ⟨_, rfl⟩
  have HN := Lib.hid hn
  rw [hn] at hs ⊢
  clear hO0 hB0
  go_enter Try.func32, Try.ntmps32
  go_wp2
  go_loopw [3, 4] (fun o i wr => ∃ k : Nat, k ≤ n ∧ i = .int .i64 k ∧ OwnPc wr w.heap.size o (plainP k) ∧ Below w.heap.size w wr) (fun _ i _ => n - (intOf i).toNat)
  case atStart => exact ⟨0, Nat.zero_le _, rfl, HO0.out, HB0.out⟩
  case round =>
    obtain ⟨k, hk, rfl, hO, hb⟩ := hrel
    have hsz := hb.size
    by_cases hlt : k < n
    · have u2 : IntKind.i64.wrap ((k : Int) + 1) = (k : Int) + 1 := IntWalk.i64_in _ (by omega)
      have HA2 := keptH (pieceAt_alloc wr ⟨-1, (k : Int), (k : Int) + 1⟩)
      have hO2a := keptH (hO.below (Below.alloc (Below.refl _ _) (Nat.le_refl _) (.cells #[.int .i64 (-1), .int .i64 (k : Int), .int .i64 ((k : Int) + 1)] 30)))
      have HB2 := keptH hb
      have HO2 := keptH hO
      clear hb hO
      go_wp2_with (at_builtin; go_loud (refine wpList_append_piece rfl _ _ rfl w.heap.size wr.heap.size ⟨-1, (k : Int), (k : Int) + 1⟩ rfl rfl hO2a.out HA2.out (by rw [plainP_len]; omega) (by simp; omega) ?_))
      intro v3 w3 hO3 hg3
      have hB3 := grown_pc HB2.out hsz HO2.out hg3
      rw [plainP_snoc] at hO3
      have FIN := keptH (And.intro hO3 hB3)
      clear hO3 hB3 hg3
      go_wp2
      go_roundw
      case rel => exact ⟨k + 1, by omega, by go_num, FIN.out.1, FIN.out.2⟩
      case measure => simp [intOf]; omega
    · obtain rfl : k = n := by omega
      have FIN := keptH (And.intro hO.at hb)
      clear hO hb
      go_wp2
      go_ret
      exact ⟨_, rfl, FIN.out.1, FIN.out.2⟩
theorem ext_join (s : ByteArray) {a b : Nat} (h : a ≤ b) : s.extract 0 a ++ s.extract a b = s.extract 0 b := by
  apply ByteArray.ext
  simp only [ByteArray.data_append, ByteArray.data_extract]
  rw [Array.extract_append_extract]
  congr 1 <;> omega
theorem ext_all (s : ByteArray) : s.extract 0 s.size = s := by
  apply ByteArray.ext
  simp only [ByteArray.data_extract]
  exact Array.extract_size
end Go.Proofs.Ytnahamhjcdkkkaa


/- Greedy pieces of drawn tables and words: they are valid, and no rule that applies is longer. -/
namespace Go.Proofs.Ytnahamhjcdkkkaa
open Go.RowKit

theorem results_two {fn : Func} {t u : Tmp} (h : fn.results = #[.tmp t, .tmp u]) (tmps : Array Value) (P : Program) (w : World) :
    (results fn tmps).run P w = .ok (.tuple #[tmps.getD t undef, tmps.getD u undef]) w := by
  simp [results, h]
/-- a drawn table and a word -/
def GrMade (w : World) (e : Ending) (w' : World) : Prop :=
  ∃ S g n cap Q s, e = .returned (.tuple #[.slice (some ⟨g, 0, none⟩) n cap, .string s]) ∧ TabOwn w' S (.slice (some ⟨g, 0, none⟩) n cap) Q ∧ Hid (Q.length = n) ∧ TableFits (tabOf Q) ∧ n ≤ 9 ∧ S ≤ w'.heap.size ∧ Below w.heap.size w w' ∧ ByteArray.size s ≤ 17
set_option maxHeartbeats 1000000 in
theorem drawGreedy_any (w : World) (a : Option Addr) (len cap : Nat) (zs : List Int) (h : RowIn .u8 w a len cap zs) :
    Calls Try.prog 15 #[.slice a len cap] w fun e w' => GrMade w e w' := by
  obtain ⟨h1, h2, h3⟩ := bytesAt_of_row h
  clear h
  go_enter Try.func15, Try.ntmps15
  go_wp2_with fail
  refine (newReader_any w _ a len cap h1 (Nat.le_refl _) h2 h3).mono ?_
  rintro e w1 ⟨L, rfl, hrd, hgr⟩
  have hl1 := hrd.lt
  go_wp2_with fail
  refine (anyTable_any w1 _ _ L 0 hrd (by omega)).mono ?_
  rintro e w2 ⟨v, Q, q, rfl, hT, hF, hlen, hrd2, hq, hgr2⟩
  have hl2 := hrd2.lt
  obtain ⟨g, c, hv⟩ := hT.2.2
  subst hv
  go_wp2_with fail
  refine (anyWord_any w2 _ _ L q hrd2 (by omega)).mono ?_
  rintro e w3 ⟨s, q3, rfl, hs, hrd3, hq3, hgr3⟩
  have hl3 := hrd3.lt
  have hT3 := hT.overR hgr3 hl1
  have hG3 := grown_trans hgr2 hgr3
  have FIN := keptH (And.intro hT3 (And.intro hF (And.intro hG3.size (below_of_grown (grown_new hgr hG3 (Nat.le_refl _))))))
  clear hT hgr2 hgr3 hrd hrd2 hT3 hrd3 hF hG3 hgr
  go_wp2
  refine bodyPost_ret (results_two rfl _ _ _) rfl ?_
  exact ⟨_, g, _, c, Q, s, rfl, FIN.out.1, rfl, FIN.out.2.1, hlen, FIN.out.2.2.1, FIN.out.2.2.2, hs⟩

theorem rulesL_mem {T : List PRule} {s : ByteArray} {p : Int} {k : Nat} : (k : Int) ∈ rulesL T s p ↔ k < T.length ∧ App (T.getD k noR) s p := by
  have key : ∀ n, (k : Int) ∈ rulesTo T s p n ↔ k < n ∧ App (T.getD k noR) s p := by
    intro n
    induction n with
    | zero => simp [rulesTo]
    | succ n ih =>
      show (k : Int) ∈ rulesTo T s p n ++ _ ↔ _
      rw [List.mem_append, ih]
      constructor
      · rintro (⟨h1, h2⟩ | h)
        · exact ⟨by omega, h2⟩
        · split at h
          · rename_i hA
            simp at h
            obtain rfl : k = n := by omega
            exact ⟨by omega, hA⟩
          · simp at h
      · rintro ⟨h1, h2⟩
        by_cases hk : k = n
        · subst hk
          right; rw [if_pos h2]; simp
        · exact .inl ⟨by omega, h2⟩
  exact key T.length
/-- no rule applies where a letter stands for itself -/
theorem bst_none {T : List PRule} {s : ByteArray} {k : Nat} (h : bst T s k = -1) : rulesL T s k = [] := by
  rcases lgTo_bst T s k with ⟨_, h2⟩ | ⟨j, h1, _⟩
  · cases hL : rulesL T s k with
    | nil => rfl
    | cons z t =>
      have hz : z ∈ rulesL T s k := by rw [hL]; exact List.mem_cons_self ..
      have := rulesTo_nn T.length hz
      obtain ⟨m, rfl⟩ : ∃ m : Nat, z = m := ⟨z.toNat, by omega⟩
      have := rulesL_mem.1 hz
      exact absurd this.2 (h2 m this.1)
  · unfold bst at h; omega
/-- no rule that applies is longer than the chosen piece -/
theorem bst_long {T : List PRule} {s : ByteArray} {k : Nat} {z : Int} (hz : z ∈ rulesL T s k) : 0 ≤ z ∧ z < T.length ∧ ((T.getD z.toNat noR).t.size : Int) ≤ (pcG T s k).t - (pcG T s k).f := by
  have hn := rulesTo_nn T.length hz
  obtain ⟨m, rfl⟩ : ∃ m : Nat, z = m := ⟨z.toNat, by omega⟩
  have hm := rulesL_mem.1 hz
  refine ⟨hn.1, hn.2, ?_⟩
  rw [Int.toNat_natCast]
  rcases lgTo_bst T s k with ⟨_, h2⟩ | ⟨j, h1, h3, _, h4⟩
  · exact absurd hm.2 (h2 m hm.1)
  · have h5 := h4 m hm.1 hm.2
    unfold pcG pcB bst
    rw [h1, if_neg (by omega)]
    have h6 : szR T (j : Int) = (T.getD j noR).t.size := by unfold szR; rw [Int.toNat_natCast]
    simp only
    rw [h6]
    omega
theorem grL_at {T : List PRule} {s : ByteArray} : ∀ j i, i < j → (grL T s j).getD i noP = pcG T s (gpos T s i) := by
  intro j
  induction j with
  | zero => intro i h; omega
  | succ j ih =>
    intro i h
    show (grL T s j ++ [pcG T s (gpos T s j)]).getD i noP = _
    rw [List.getD_eq_getElem?_getD]
    by_cases hi : i < j
    · rw [List.getElem?_append_left (by rw [grL_len]; exact hi), ← List.getD_eq_getElem?_getD]
      exact ih i hi
    · obtain rfl : i = j := by omega
      rw [List.getElem?_append_right (by rw [grL_len]; omega), grL_len]
      simp
theorem grL_endAt {T : List PRule} {s : ByteArray} (hv : ValidTb T) {j : Nat} (h1 : ∀ i, i < j → gpos T s i < s.size) : ∀ i, i ≤ j → endAt (grL T s j) i = gpos T s i := by
  intro i hi
  cases i with
  | zero => rfl
  | succ i =>
    show ((grL T s j).getD i noP).t = ((pcG T s (gpos T s i)).t.toNat : Nat)
    rw [grL_at j i (by omega)]
    have := pcG_bd hv (h1 i (by omega))
    omega
theorem pcG_ok {T : List PRule} {s : ByteArray} (hv : ValidTb T) {k : Nat} (hk : k < s.size) : PcOk T s (pcG T s k) := by
  have hb := pcG_bd hv hk
  refine ⟨by omega, by omega, ?_⟩
  have hbs := lgTo_bst T s k
  unfold pcG pcB bst
  rcases hbs with ⟨h1, h2⟩ | ⟨j, h1, hj, hA, h2⟩
  · left
    rw [h1, if_pos rfl]
    exact ⟨rfl, rfl⟩
  · right
    rw [h1, if_neg (by omega)]
    have h5 : szR T (j : Int) = (T.getD j noR).t.size := by unfold szR; rw [Int.toNat_natCast]
    simp only [Int.toNat_natCast]
    exact ⟨by omega, by omega, hA, by rw [h5]⟩
theorem grL_valid {T : List PRule} {s : ByteArray} (hv : ValidTb T) {j : Nat} (h1 : ∀ i, i < j → gpos T s i < s.size) (h2 : s.size ≤ gpos T s j) (h0 : 0 < s.size) : ValidPv T s (grL T s j) := by
  refine ⟨fun i hi => ?_, ?_⟩
  · rw [grL_len] at hi
    rw [grL_at j i hi, grL_endAt hv h1 i (by omega)]
    exact ⟨(pcG_bd hv (h1 i hi)).2.1, pcG_ok hv (h1 i hi)⟩
  · rw [grL_len, grL_endAt hv h1 j (Nat.le_refl _)]
    cases j with
    | zero =>
      have hg0 : gpos T s 0 = 0 := rfl
      omega
    | succ j =>
      have := pcG_bd hv (h1 j (by omega))
      have hg : gpos T s (j + 1) = (pcG T s (gpos T s j)).t.toNat := rfl
      omega
theorem grL_fit {T : List PRule} {s : ByteArray} (hv : ValidTb T) {j : Nat} (h1 : ∀ i, i < j → gpos T s i < s.size) (hs : s.size ≤ 1000) : PiecesFit (grL T s j) := by
  have hT := hv.1
  intro x hx
  obtain ⟨i, hi, rfl⟩ := List.getElem_of_mem hx
  rw [grL_len] at hi
  have e := grL_at (T := T) (s := s) j i hi
  rw [List.getD_eq_getElem?_getD, List.getElem?_eq_getElem (by rw [grL_len]; exact hi), Option.getD_some] at e
  rw [e]
  have := pcG_bd hv (h1 i hi)
  have h16 : T.length ≤ 16 := hT
  refine ⟨?_, ?_, ?_⟩ <;> omega

/-- the lists of pieces that both sides make of a table and a word -/
theorem gr_lists (T : List PRule) (s : ByteArray) (g n c : Nat) (hn : T.length = n) (hf : TableFits T) (hs : s.size ≤ 17) :
    ∃ P : List PPiece, Hid (∀ wx, TableAt wx (.slice (some ⟨g, 0, none⟩) n c) T → Calls Try.prog 18 #[.slice (some ⟨g, 0, none⟩) n c, .string s] wx fun e w' => PcsMade P wx e w') ∧ Hid (∀ wx, TableAt wx (.slice (some ⟨g, 0, none⟩) n c) T → Calls Try.prog 16 #[.slice (some ⟨g, 0, none⟩) n c, .string s] wx fun e w' => PcsMade P wx e w') ∧
      P.length ≤ 16 ∧ (P = [] ∨ Hid ((ValidTb T ∧ WordB 16 s.data.toList) ∧ PiecesFit P ∧ ValidPv T s P ∧ ∀ i, i < P.length → ∃ q : Nat, (P.getD i noP).f = q ∧ (P.getD i noP).r < 20 ∧ q ≤ 16 ∧ (P.getD i noP).t ≤ 16 ∧ ((P.getD i noP).r < 0 → rulesL T s q = []) ∧ ∀ z ∈ rulesL T s q, 0 ≤ z ∧ z < T.length ∧ ((T.getD z.toNat noR).t.size : Int) ≤ (P.getD i noP).t - q)) := by
  have hss : s.size ≤ 9223372036854775807 := by omega
  by_cases hv : ValidTb T ∧ WordB 16 s.data.toList
  · obtain ⟨j, h1, h2, h3⟩ := greedy_end hv.1 s
    have h4 := hv.2.2.1
    rw [wd_size] at h4
    have h0 : 0 < s.size := by have := hv.2.1; rw [wd_size] at this; omega
    have h16 : T.length ≤ 16 := hv.1.1
    refine ⟨grL T s j, fun wx h => (s_GreedyPieces wx g n c T s h hn hf (Lib.hid hv.1) (Lib.hid hv.2)).mono fun e w' hm => made_of_greedy hm h1 h2, fun wx h => (i_GreedyPieces wx _ T s h hf (Lib.hid hv.1) (Lib.hid hv.2)).mono fun e w' hm => made_of_greedy hm h1 h2, by rw [grL_len]; omega, .inr ⟨hv, grL_fit hv.1 h1 (by omega), grL_valid hv.1 h1 h2 h0, fun i hi => ?_⟩⟩
    rw [grL_len] at hi
    have hg := h1 i hi
    obtain ⟨b1, b2, b3, b4, b5⟩ := pcG_bd hv.1 hg
    rw [grL_at j i hi]
    refine ⟨gpos T s i, b2, by omega, by omega, by omega, fun hr => bst_none (by omega), fun z hz => ?_⟩
    have := bst_long hz
    rw [b2] at this
    exact this
  · exact ⟨[], fun wx h => s_Greedy_no wx _ T s h hf hss (Lib.hid hv), fun wx h => i_Greedy_no wx _ T s h hf hss (Lib.hid hv), by simp, .inl rfl⟩
end Go.Proofs.Ytnahamhjcdkkkaa


/- The laws of GreedyPieces on drawn tables and words. -/
namespace Go.Proofs.Ytnahamhjcdkkkaa
open Go.RowKit

set_option maxHeartbeats 2000000 in
theorem equalPieces_same (w : World) (u v : Value) (P : List PPiece) (hx : PiecesAt w u P) (hy : PiecesAt w v P) :
    Calls Try.prog 17 #[u, v] w fun e w' => e = .returned (.bool true) ∧ Below w.heap.size w w' := by
  obtain ⟨a, cp, rfl, x1, x2, x3⟩ := hx
  obtain ⟨a', cp', rfl, y1, y2, y3⟩ := hy
  obtain ⟨n, hn⟩ : ∃ n, P.length = n := ⟨_, rfl⟩
  rw [hn] at x1 x3 y1 y3 ⊢
  have HN := Lib.hid hn
  clear hn
  go_enter Try.func17, Try.ntmps17
  go_wp2
  go_loopw [5] (fun i wr => ∃ k : Nat, k ≤ n ∧ i = .int .i64 k ∧ Below w.heap.size w wr) (fun i _ => n - (intOf i).toNat)
  case atStart => exact ⟨0, Nat.zero_le _, rfl, Below.refl _ _⟩
  case round =>
    obtain ⟨k, hk, rfl, hb1⟩ := hrel
    by_cases hlt : k < n
    · rcases x3 with rfl | ⟨g, off, rfl, x3⟩
      · exact absurd HN.out (by simp; omega)
      rcases y3 with rfl | ⟨g', off', rfl, y3⟩
      · exact absurd HN.out (by simp; omega)
      have hra := x3 k hlt
      have hrb := y3 k hlt
      clear x3 y3
      obtain ⟨q, hq⟩ : ∃ q, P.getD k noP = q := ⟨_, rfl⟩
      rw [hq] at hra hrb
      clear hq
      obtain ⟨r, f, t⟩ := q
      obtain ⟨c0, c1, c2⟩ := hra
      obtain ⟨d0, d1, d2⟩ := hrb
      simp only at c0 c1 c2 d0 d1 d2
      have c0 := (hb1.cell (World.block_lt_of_cell? w _ c0)).trans c0
      have c1 := (hb1.cell (World.block_lt_of_cell? w _ c1)).trans c1
      have c2 := (hb1.cell (World.block_lt_of_cell? w _ c2)).trans c2
      have d0 := (hb1.cell (World.block_lt_of_cell? w _ d0)).trans d0
      have d1 := (hb1.cell (World.block_lt_of_cell? w _ d1)).trans d1
      have d2 := (hb1.cell (World.block_lt_of_cell? w _ d2)).trans d2
      have b1 : (0 : Int) ≤ (k : Int) := by omega
      have b2 : (k : Int) < (n : Int) := by omega
      go_wp2_with fail
      go_quiet (fail)
      go_wp2
      go_roundw
      case rel => exact ⟨k + 1, by omega, by go_num, below_drewN hb1 _⟩
      case measure => simp [intOf]; omega
    · go_wp2
      go_ret
      exact ⟨rfl, hb1⟩
end Go.Proofs.Ytnahamhjcdkkkaa


/- GreedyPieces of drawn tables and words: the laws' walks. -/
namespace Go.Proofs.Ytnahamhjcdkkkaa
open Go.RowKit

theorem PiecesAt.len {w : World} {a : Option Addr} {n c : Nat} {P : List PPiece} (h : PiecesAt w (.slice a n c) P) : P.length = n := by
  obtain ⟨_, _, e, _⟩ := h
  injection e with _ e2 _
  exact e2.symm
theorem PiecesAt.cell3 {w : World} {a : Option Addr} {n c : Nat} {P : List PPiece} (h : PiecesAt w (.slice a n c) P) {i : Nat} (hi : i < P.length) :
    ∃ g off, a = some ⟨g, off, none⟩ ∧ w.cell? ⟨g, off + i * 3, none⟩ = some (.int .i64 (P.getD i noP).r) ∧ w.cell? ⟨g, off + i * 3 + 1, none⟩ = some (.int .i64 (P.getD i noP).f) ∧ w.cell? ⟨g, off + i * 3 + 2, none⟩ = some (.int .i64 (P.getD i noP).t) := by
  obtain ⟨a', cap, e, _, _, hc⟩ := h
  injection e with e1 _ _
  subst e1
  rcases hc with rfl | ⟨g, off, e, hc⟩
  · simp at hi
  · obtain ⟨h1, h2, h3⟩ := hc i hi
    exact ⟨g, off, e, h1, h2, h3⟩
set_option maxHeartbeats 4000000 in
theorem greedyPieces_walk (a : Option Addr) (len cap : Nat) (zs : List Int) (w : World) (h : RowIn .u8 w a len cap zs) :
    Calls Try.prog 3 #[.slice a len cap] w fun e w' => e = .returned (.bool true) ∧ Below w.heap.size w w' := by
  have hlen : len ≤ 9223372036854775807 := by
    obtain ⟨_, h2, h3⟩ := bytesAt_of_row h; unfold maxLen at h3; omega
  by_cases hbig : len ≤ 1048576
  · go_enter Try.func3, Try.ntmps3
    go_wp2_with fail
    refine (drawGreedy_any w a len cap zs h).mono ?_
    rintro e w1 ⟨S, g, n, c1, Q, s, rfl, hTO, HN, hF, hn9, _, hb1, hs⟩
    clear h
    have hx1 := hTO.at
    have hnt : (tabOf Q).length = n := by rw [tabOf_len]; exact HN.out
    clear hTO HN
    generalize tabOf Q = T at hx1 hF hnt
    clear Q
    obtain ⟨P, HS, HI, h16, HP⟩ := gr_lists T s g n c1 hnt hF hs
    have HF := keptH hF
    have HNT := Lib.hid hnt
    have HPP := keptH HP
    clear hF hnt HP
    go_wp2_with fail
    refine (HI.out w1 hx1).mono ?_
    rintro e w2 ⟨v2, rfl, hO2, hb2, a2, n2, c2, rfl⟩
    have hx2 := hx1.below hb2
    have hB2 := below_next hb1 hb2
    have hI2 := hO2.at
    have HL := Lib.hid hO2.at.len
    clear hx1 hb1 hb2 hO2
    go_wp2_with fail
    refine (HS.out w2 hx2).mono ?_
    rintro e w3 ⟨v3, rfl, hO3, hb3, a3, n3, c3, rfl⟩
    have hx3 := hx2.below hb3
    have hB3 := below_next hB2 hb3
    have hI3 := hI2.below hb3
    have hJ3 := hO3.at
    clear hx2 hB2 hb3 hI2 hO3
    go_wp2_with fail
    refine (equalPieces_same w3 _ _ P hI3 hJ3).mono ?_
    rintro e w4 ⟨rfl, hb4⟩
    have hx4 := hx3.below hb4
    have hB4 := below_next hB3 hb4
    have hI4 := hI3.below hb4
    clear hx3 hB3 hb4 hI3 hJ3
    by_cases h0 : n2 = 0
    · subst h0
      go_wp2_with fail
      refine (HS.out w4 hx4).mono ?_
      rintro e w5 ⟨v5, rfl, hO5, hb5, a5, n5, c5, rfl⟩
      have hB5 := below_next hB4 hb5
      have hI5 := hI4.below hb5
      have hJ5 := hO5.at
      clear hb5 hO5 hI4 hB4
      go_wp2_with fail
      refine (equalPieces_same w5 _ _ P hI5 hJ5).mono ?_
      rintro e w6 ⟨rfl, hb6⟩
      have FIN := keptH (below_next hB5 hb6)
      clear hI5 hJ5 hb6 hB5
      go_wp2
      go_ret
      exact ⟨rfl, FIN.out⟩
    · obtain HQ : Hid ((ValidTb T ∧ WordB 16 s.data.toList) ∧ PiecesFit P ∧ ValidPv T s P ∧ ∀ i, i < P.length → ∃ q : Nat, (P.getD i noP).f = q ∧ (P.getD i noP).r < 20 ∧ q ≤ 16 ∧ (P.getD i noP).t ≤ 16 ∧ ((P.getD i noP).r < 0 → rulesL T s q = []) ∧ ∀ z ∈ rulesL T s q, 0 ≤ z ∧ z < T.length ∧ ((T.getD z.toNat noR).t.size : Int) ≤ (P.getD i noP).t - q) := by
        rcases HPP.out with rfl | h
        · exact absurd HL.out (by simp; omega)
        · exact h
      have q0 : ((n2 : Int) == 0) = false := by simp; omega
      have hn16 : n2 ≤ 16 := by have := HL.out; omega
      have HX4 := keptH hx4
      have HB4 := keptH hB4
      have HI4 := keptH hI4
      have hwT : Hid (ValidTb T) := (show ValidTb T from HQ.out.1.1)
      have hwW : Hid (WordB 16 s.data.toList) := (show WordB 16 s.data.toList from HQ.out.1.2)
      clear HPP hx4 hB4 hI4 h0
      go_wp2
      go_loopw [6] (fun i wr => ∃ k : Nat, k ≤ n2 ∧ i = .int .i64 k ∧ Below w4.heap.size w4 wr) (fun i _ => n2 - (intOf i).toNat)
      case atStart => exact ⟨0, Nat.zero_le _, rfl, Below.refl _ _⟩
      case round =>
        obtain ⟨k, hk, rfl, hbr⟩ := hrel
        by_cases hlt : k < n2
        · obtain ⟨g2, off, rfl, q1, q2, _⟩ := (HI4.out.below hbr).cell3 (i := k) (by rw [HL.out]; exact hlt)
          obtain ⟨q, p1, p2, p3, _, p4, _⟩ := HQ.out.2.2.2 k (by rw [HL.out]; exact hlt)
          rw [p1] at q2
          obtain ⟨r, hr⟩ : ∃ r, (P.getD k noP).r = r := ⟨_, rfl⟩
          rw [hr] at q1 p4
          have HBR := keptH hbr
          clear hr hbr p1 p2
          have b1 : (0 : Int) ≤ (k : Int) := by omega
          have b2 : (k : Int) < (n2 : Int) := by omega
          by_cases hr0 : r < 0
          · have d0 : decide (r < 0) = true := decide_eq_true hr0
            have HL0 : Hid (rulesL T s q = []) := (show rulesL T s q = [] from p4 hr0)
            clear p4 hr0
            go_wp2_with fail
            refine (i_RulesAt wr _ T s q (HX4.out.below HBR.out) HF.out hwT (by omega) hwW (by omega) (by omega)).mono ?_
            rw [HL0.out]
            rintro e w5 ⟨v5, rfl, hO5, hb5, a5, n5, c5, rfl⟩
            obtain rfl : n5 = 0 := by
              obtain ⟨_, _, e, _⟩ := hO5.at
              injection e
            have HB5 := keptH (below_next HBR.out hb5)
            clear hO5 hb5
            go_wp2
            go_roundw
            case rel => exact ⟨k + 1, by omega, by go_num, HB5.out⟩
            case measure => simp [intOf]; omega
          · have d0 : decide (r < 0) = false := decide_eq_false hr0
            clear p4 hr0
            go_wp2
            go_roundw
            case rel => exact ⟨k + 1, by omega, by go_num, HBR.out⟩
            case measure => simp [intOf]; omega
        · have hbr' := keptH hbr
          clear hbr
          go_wp2_with fail
          refine (i_ValidPieces_b wr _ _ T s P (HX4.out.below hbr'.out) HF.out (by omega) (HI4.out.below hbr'.out) HQ.out.2.1 (show _ ∧ _ from ⟨HQ.out.1, HQ.out.2.2.1⟩)).mono ?_
          rintro e w6 ⟨rfl, hb6⟩
          have FIN := keptH (below_next HB4.out (below_next hbr'.out hb6))
          clear hb6
          go_wp2
          go_ret
          exact ⟨rfl, FIN.out⟩
  · have hbig' : 1048576 < len := by omega
    go_enter Try.func3, Try.ntmps3
    go_wp2
    go_ret
    exact ⟨rfl, Below.refl _ _⟩
end Go.Proofs.Ytnahamhjcdkkkaa

