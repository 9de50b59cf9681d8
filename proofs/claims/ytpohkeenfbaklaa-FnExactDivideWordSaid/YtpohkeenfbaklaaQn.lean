
/- The parts of a word: both sides. -/
import Derived.Test.YtpohkeenfbaklaaQm
import Derived.Test.YtpohkeenfbaklaaWb
import Derived.Maps.AppendAt
namespace Go.Proofs.Ytpohkeenfbaklaa
open Go.RowKit

/-- where part k begins -/
def lastP (Z : List Int) : Nat → Int
  | 0 => 0
  | k + 1 => Z.getD k 0
/-- the first k parts -/
def partK (s : ByteArray) (Z : List Int) : Nat → List ByteArray
  | 0 => []
  | k + 1 => partK s Z k ++ [s.extract (lastP Z k).toNat (Z.getD k 0).toNat]
theorem partK_len (s : ByteArray) (Z : List Int) : ∀ k, (partK s Z k).length = k := by
  intro k
  induction k with
  | zero => rfl
  | succ k ih => show (partK s Z k ++ _).length = _; rw [List.length_append, ih]; rfl
/-- the parts -/
def parts (s : ByteArray) (Z : List Int) : List ByteArray := partK s Z Z.length ++ [s.extract (lastP Z Z.length).toNat s.size]
theorem parts_len (s : ByteArray) (Z : List Int) : (parts s Z).length = Z.length + 1 := by
  show (partK s Z Z.length ++ _).length = _; rw [List.length_append, partK_len]; rfl
/-- the places are in order and below m -/
def CutZ (Z : List Int) (m : Int) : Prop := (∀ k, k < Z.length → 0 ≤ lastP Z k ∧ lastP Z k ≤ Z.getD k 0 ∧ Z.getD k 0 ≤ m) ∧ 0 ≤ lastP Z Z.length ∧ lastP Z Z.length ≤ m
theorem lastP_app {Z : List Int} {z : Int} {k : Nat} (h : k ≤ Z.length) : lastP (Z ++ [z]) k = lastP Z k := by
  cases k with
  | zero => rfl
  | succ k =>
    show (Z ++ [z]).getD k 0 = Z.getD k 0
    rw [List.getD_eq_getElem?_getD, List.getD_eq_getElem?_getD, List.getElem?_append_left (by omega)]
theorem CutZ.nil {m : Int} (h : 0 ≤ m) : CutZ [] m := ⟨fun k hk => absurd hk (by simp), Int.le_refl _, h⟩
theorem CutZ.up {Z : List Int} {m m' : Int} (h : CutZ Z m) (hm : m ≤ m') : CutZ Z m' :=
  ⟨fun k hk => by have := h.1 k hk; omega, h.2.1, by have := h.2.2; omega⟩
theorem CutZ.snoc {Z : List Int} {m : Int} (h : CutZ Z m) : CutZ (Z ++ [m]) m := by
  have hl : (Z ++ [m]).length = Z.length + 1 := by rw [List.length_append]; rfl
  have hm : (Z ++ [m]).getD Z.length 0 = m := by
    rw [List.getD_eq_getElem?_getD, List.getElem?_append_right (Nat.le_refl _)]; simp
  refine ⟨fun k hk => ?_, ?_⟩
  · rw [hl] at hk
    rw [lastP_app (by omega)]
    by_cases hk2 : k < Z.length
    · have e : (Z ++ [m]).getD k 0 = Z.getD k 0 := by
        rw [List.getD_eq_getElem?_getD, List.getD_eq_getElem?_getD, List.getElem?_append_left hk2]
      rw [e]
      exact h.1 k hk2
    · obtain rfl : k = Z.length := by omega
      rw [hm]
      exact ⟨h.2.1, h.2.2, Int.le_refl _⟩
  · rw [hl]
    show 0 ≤ (Z ++ [m]).getD Z.length 0 ∧ (Z ++ [m]).getD Z.length 0 ≤ m
    rw [hm]
    exact ⟨by have h1 := h.2.1; have h2 := h.2.2; omega, Int.le_refl _⟩
theorem ptL_cut (T : List PPat) (s : ByteArray) : ∀ k : Nat, CutZ (ptL T s k) ((k - 1 : Nat) : Int) := by
  intro k
  induction k with
  | zero => exact CutZ.nil (by simp)
  | succ k ih =>
    have h2 : CutZ (ptL T s k) (k : Int) := ih.up (by omega)
    rw [show k + 1 - 1 = k from rfl]
    show CutZ (ptL T s k ++ (if 2 ≤ k ∧ lev T s k % 2 = 1 then [(k : Int)] else [])) _
    split
    · exact h2.snoc
    · rw [List.append_nil]; exact h2
theorem CutZ.step {Z : List Int} {m k : Nat} (h : CutZ Z m) (hk : k < Z.length) : ∃ p q : Nat, lastP Z k = (p : Int) ∧ Z.getD k 0 = (q : Int) ∧ p ≤ q ∧ q ≤ m := by
  have h1 := h.1 k hk
  exact ⟨(lastP Z k).toNat, (Z.getD k 0).toNat, by omega, by omega, by omega, by omega⟩
theorem CutZ.last {Z : List Int} {m : Nat} (h : CutZ Z m) : ∃ p : Nat, lastP Z Z.length = (p : Int) ∧ p ≤ m :=
  ⟨(lastP Z Z.length).toNat, by have := h.2.1; omega, by have h1 := h.2.1; have h2 := h.2.2; omega⟩
theorem new_stQ {w : World} {t : TypeId} {x : ByteArray} : (w.alloc (.cells #[.string x] t)).cell? ⟨w.heap.size, 0, none⟩ = some (.string x) := by simp
def TextsMadeQ (P : List ByteArray) (w : World) (e : Ending) (w' : World) : Prop := ∃ v, e = .returned v ∧ OwnSt w' w.heap.size v P ∧ Below w.heap.size w w'
theorem OwnInts.cellQ {w : World} {base n c : Nat} {a : Option Addr} {zs : List Int} (h : OwnInts w base (.slice a n c) zs) {k : Nat} (hk : k < n) : ∃ g, a = some ⟨g, 0, none⟩ ∧ base ≤ g ∧ w.cell? ⟨g, k, none⟩ = some (.int .i64 (zs.getD k 0)) := by
  obtain ⟨_, _, e, _⟩ := h.at
  injection e with _ e2 _
  obtain ⟨g, cap, hv, hb⟩ := h.shape (by omega)
  injection hv with h1 h2 h3
  subst h1
  exact ⟨g, rfl, hb, h.cell h2.symm hk⟩
/-- what an append to the row of texts leaves of the list of places -/
theorem OwnInts.overSt {w w' : World} {base B : Nat} {v v2 : Value} {zs : List Int} {o : Obj} (h : OwnInts w base v zs) (hg : (w.alloc o).grownBy w' v2.ownBlock) (hlt : ∀ k, v.ownBlock = some k → k < B) (hge : ∀ k, v2.ownBlock = some k → B ≤ k) : OwnInts w' base v zs :=
  own_of_blockQ h fun b hb => by
    have hs := (h.lt b hb).2
    have h1 := hlt b hb
    have h2 : (w.alloc o).heap[b]? = w.heap[b]? := Go.heap_alloc_old w o hs
    exact (hg.block b (by rw [World.size_alloc]; omega) (fun e => by have := hge b e.symm; omega)).trans h2

theorem wpList_append_stQ {ops : Array Oper} {rest : List Oper} {o : Oper} {a : Act} {w : World} {Q : Exit → Act → World → Prop} (hgd : o.guard = none) (s x : Operand)
    (ho : o.op = .call { callee := .builtin .append, args := #[s, x], argTypes := #[37, 37] }) (base g : Nat) {v : Value} {P : List ByteArray} (t : ByteArray) (hs : a.eval s = v) (hx : a.eval x = .slice (some ⟨g, 0, none⟩) 1 1)
    (h1 : OwnSt w base v P) (h2 : w.cell? ⟨g, 0, none⟩ = some (.string t)) (hl : P.length ≤ 100000) (hbase : base ≤ w.heap.size)
    (h : ∀ v' w', OwnSt w' base v' (P ++ [t]) → w.grownBy w' v.ownBlock → (v'.ownBlock = v.ownBlock ∨ v'.ownBlock = some w.heap.size) → wpList Try.prog ops Q rest (a.put o.dst v') w') : wpList Try.prog ops Q (o :: rest) a w := by
  obtain ⟨i0, hi, hz0, hz1, hz2⟩ := info_parts infoSt
  refine wpList_append_own_at w hgd s x 37 ho base 9 i0 (.string ByteArray.empty) 1 16 Try.underlying37 hi hz0 hz1 hz2 rfl (by decide) v P.length (P.map Value.string) hs h1 ⟨g, 0, none⟩ 1 1 [.string t] hx rfl ?_ ?_ (by unfold maxLen; omega) (by omega) hbase ?_
  · intro j u hj
    rw [Addr.add_lit]
    match j, hj with
    | 0, hj => simp at hj; subst hj; exact h2
  · intro u hu
    simp at hu
    subst hu
    rfl
  · intro v' w' hown hgrow _ hat
    refine h v' w' ?_ hgrow hat
    unfold OwnSt
    rw [List.map_append, List.length_append]
    exact hown
set_option maxHeartbeats 2000000 in
theorem i_DivideWord (w : World) (v : Value) (T : List PPat) (s : ByteArray) (hx : PatsAt w v T) (hf : PatsMid T) (hv : Hid (OkH T s)) :
    Calls Try.prog 27 #[v, .string s] w fun e w' => TextsMadeQ (parts s (ptL T s (s.size - 1))) w e w' := by
  have hsl : 1 ≤ s.size ∧ s.size ≤ 16 := by have h1 := hv.out.2.1; have h2 := hv.out.2.2.1; rw [wd_size] at h1 h2; exact ⟨h1, h2⟩
  have HX := keptQ hx
  obtain ⟨a, cp, rfl, _⟩ := hx
  have HF := keptQ hf
  have HV : Hid (ValidPs T) := hv.out.1
  have HWD : Hid (decide (WordB 16 s.data.toList) = true) := decide_eq_true hv.out.2
  have hc := (ptL_cut T s (s.size - 1)).up (m' := (s.size : Int)) (by omega)
  have hl16 := ptL_len T s (s.size - 1)
  clear hf
  go_enter Try.func27, Try.ntmps27
  go_wp2_with fail
  refine (i_ValidPatterns w _ T true HX.out HF.out (show _ ↔ _ from ⟨fun _ => HV.out, fun _ => rfl⟩)).mono ?_
  rintro e w1 ⟨rfl, hb1⟩
  have HB1 := keptQ hb1
  clear hb1
  go_wp2_with fail
  refine (i_isWord_q s true w1 (by omega) HWD).mono ?_
  rintro e w' ⟨rfl, rfl⟩
  go_wp2_with fail
  refine (i_hyphenPoints w1 _ T s (HX.out.below HB1.out) hv).mono ?_
  obtain ⟨Z, hZ⟩ : ∃ Z, ptL T s (s.size - 1) = Z := ⟨_, rfl⟩
  have HZ := keptQ hZ
  rw [hZ] at hc hl16
  have HC := keptQ hc
  obtain ⟨n, hn⟩ : ∃ n, Z.length = n := ⟨_, rfl⟩
  have HN := keptQ hn
  have hn16 : n ≤ 16 := by omega
  clear hc hl16 hn
  rintro e w2 ⟨v2, rfl, hO2, hb2, a2, n2, c2, rfl⟩
  rw [hZ] at hO2
  clear hZ
  have hB2 := below_next HB1.out hb2
  obtain rfl : n2 = n := by
    obtain ⟨_, _, e, _⟩ := hO2.at
    injection e with _ e2 _
    rw [e2]; exact HN.out
  have HLT : Hid (∀ k, (Value.slice a2 n2 c2).ownBlock = some k → k < w2.heap.size) := fun k hk => (hO2.lt k hk).2
  have hO2' := World.ownsRow.mono hO2 HB1.out.size
  have HO2 : Hid (OwnInts w2 w.heap.size (.slice a2 n2 c2) Z) := hO2'
  have HB2 := keptQ hB2
  have hsz2 := hB2.size
  have HS0 : Hid (OwnSt w2 w2.heap.size (.slice none 0 0) (partK s Z 0)) := OwnSt.nil _ _
  have HB0 := keptQ (Below.refl w2.heap.size w2)
  clear hO2 hO2' hb2 hB2
  go_wp2
  go_loopw [5, 6, 21] (fun o f y wr => ∃ (k p : Nat), k ≤ n2 ∧ y = .int .i64 k ∧ f = .int .i64 p ∧ Hid (lastP Z k = (p : Int)) ∧ p ≤ s.size ∧ Hid (OwnSt wr w2.heap.size o (partK s Z k)) ∧ Hid (Below w2.heap.size w2 wr)) (fun _ _ y _ => n2 - (intOf y).toNat)
  case atStart => exact ⟨0, 0, Nat.zero_le _, rfl, rfl, (show _ = _ from rfl), Nat.zero_le _, HS0, HB0⟩
  case round =>
    clear HS0 HB0
    obtain ⟨wo, rfl⟩ : ∃ wo, wo = wr := ⟨wr, rfl⟩
    obtain ⟨k, p, hk, rfl, rfl, HP, hps, HO, HB⟩ := hrel
    have hszr := HB.out.size
    by_cases hlt : k < n2
    · obtain ⟨p', q, hp', hq, hpq, hqs⟩ := HC.out.step (k := k) (by rw [HN.out]; exact hlt)
      obtain rfl : p' = p := by have := HP.out; omega
      obtain ⟨g, rfl, _, hcell⟩ := (HO2.out.below HB.out).cellQ hlt
      rw [hq] at hcell
      have HPK : Hid (partK s Z (k + 1) = partK s Z k ++ [s.extract p' q]) := by
        show partK s Z k ++ [s.extract (lastP Z k).toNat (Z.getD k 0).toNat] = _
        rw [hp', hq]; rfl
      have HQ : Hid (lastP Z (k + 1) = (q : Int)) := hq
      have hlk := partK_len s Z k
      have b1 : (0 : Int) ≤ (p' : Int) := by omega
      have b2 : (p' : Int) ≤ (q : Int) := by omega
      have b3 : (q : Int) ≤ (s.size : Int) := by omega
      have c1 : (0 : Int) ≤ (k : Int) := by omega
      have c2 : (k : Int) < (n2 : Int) := by omega
      clear hp' hq
      go_wp2_with (at_builtin; go_loud (refine wpList_append_st rfl _ _ rfl w2.heap.size wo.heap.size (s.extract p' q) rfl rfl (HO.out.below ((Below.refl _ _).alloc (Nat.le_refl _) _)) (by first | exact new_stQ | simp) (by omega) (by first | (rw [World.size_alloc]; omega) | omega) ?_))
      intro v' w3 hO3 hg3
      have hB3 := grown_st HB.out hszr HO.out hg3
      have HO3 : Hid (OwnSt w3 w2.heap.size v' (partK s Z (k + 1))) := by rw [HPK.out]; exact hO3
      have HB3 := keptQ hB3
      clear hO3 hB3 hg3 hcell
      go_wp2
      go_roundw
      case rel => exact ⟨k + 1, q, by omega, by go_num, rfl, HQ, hqs, HO3, HB3⟩
      case measure => simp [intOf]; omega
    · obtain rfl : k = n2 := by omega
      have HPF : Hid (parts s Z = partK s Z k ++ [s.extract p s.size]) := by
        show partK s Z Z.length ++ [s.extract (lastP Z Z.length).toNat s.size] = _
        rw [HN.out, HP.out]; rfl
      have hlk := partK_len s Z k
      have b1 : (0 : Int) ≤ (p : Int) := by omega
      have b2 : (p : Int) ≤ (s.size : Int) := by omega
      go_wp2_with (at_builtin; go_loud (refine wpList_append_st rfl _ _ rfl w2.heap.size wo.heap.size (s.extract p s.size) rfl rfl (HO.out.below ((Below.refl _ _).alloc (Nat.le_refl _) _)) (by first | exact new_stQ | simp) (by omega) (by first | (rw [World.size_alloc]; omega) | omega) ?_))
      intro v' w3 hO3 hg3
      have hB3 := grown_st HB.out hszr HO.out hg3
      have HO3 : Hid (OwnSt w3 w.heap.size v' (parts s Z)) := by rw [HPF.out]; exact World.ownsRow.mono hO3 hsz2
      have HB3 := keptQ (HB2.out.trans (hB3.mono hsz2))
      clear hO3 hB3 hg3
      go_wp2
      go_ret
      exact ⟨_, rfl, by rw [HZ.out]; exact HO3.out, HB3.out⟩
set_option maxHeartbeats 4000000 in
theorem s_DivideWord (w : World) (v : Value) (T : List PPat) (s : ByteArray) (hx : PatsAt w v T) (hf : PatsMid T) (hv : Hid (OkH T s)) :
    Calls Try.prog 29 #[v, .string s] w fun e w' => TextsMadeQ (parts s (ptL T s (s.size - 1))) w e w' := by
  have hsl : 1 ≤ s.size ∧ s.size ≤ 16 := by have h1 := hv.out.2.1; have h2 := hv.out.2.2.1; rw [wd_size] at h1 h2; exact ⟨h1, h2⟩
  have HX := keptQ hx
  obtain ⟨a, cp, rfl, _⟩ := hx
  have HF := keptQ hf
  have HV : Hid (ValidPs T) := hv.out.1
  have HWD : Hid (decide (WordB 16 s.data.toList) = true) := decide_eq_true hv.out.2
  have hc := (ptL_cut T s (s.size - 1)).up (m' := (s.size : Int)) (by omega)
  have hl16 := ptL_len T s (s.size - 1)
  clear hf
  go_enter Try.func29, Try.ntmps29
  go_wp2_with fail
  refine (s_validPatterns w _ T true HX.out HF.out (show _ ↔ _ from ⟨fun _ => HV.out, fun _ => rfl⟩)).mono ?_
  rintro e w1 ⟨rfl, hb1⟩
  have HB1 := keptQ hb1
  have hsz1 := hb1.size
  clear hb1
  go_wp2_with fail
  refine (s_validWord_qt s true w1 (by omega) HWD).mono ?_
  rintro e w' ⟨rfl, rfl⟩
  have hBa : Below w.heap.size w (w1.alloc (.cells #[] 9)) := HB1.out.alloc hsz1 _
  have HBa := keptQ hBa
  have HOa : Hid (OwnSt (w1.alloc (.cells #[] 9)) w.heap.size (.slice (some ⟨w1.heap.size, 0, none⟩) 0 0) []) := OwnSt.made w1 w.heap.size hsz1
  clear hBa
  go_wp2_with fail
  refine (s_points _ _ T s (HX.out.below HBa.out) hv).mono ?_
  obtain ⟨Z, hZ⟩ : ∃ Z, ptL T s (s.size - 1) = Z := ⟨_, rfl⟩
  have HZ := keptQ hZ
  rw [hZ] at hc hl16
  have HC := keptQ hc
  obtain ⟨n, hn⟩ : ∃ n, Z.length = n := ⟨_, rfl⟩
  have HN := keptQ hn
  have hn16 : n ≤ 16 := by omega
  clear hc hl16 hn
  rintro e w2 ⟨v2, rfl, hO2, hb2, a2, n2, c2, rfl⟩
  rw [hZ] at hO2
  clear hZ
  obtain rfl : n2 = n := by
    obtain ⟨_, _, e, _⟩ := hO2.at
    injection e with _ e2 _
    rw [e2]; exact HN.out
  have HLT : Hid (∀ k, (Value.slice a2 n2 c2).ownBlock = some k → w1.heap.size + 1 ≤ k ∧ k < w2.heap.size) := fun k hk => by
    have h9 := hO2.lt k hk
    rw [World.size_alloc] at h9
    exact h9
  have HZ0 : Hid (OwnInts w2 (w1.heap.size + 1) (.slice a2 n2 c2) Z) := by have h9 := hO2; rw [World.size_alloc] at h9; exact h9
  have HB0 : Hid (Below w.heap.size w w2) := HBa.out.trans (hb2.mono HBa.out.size)
  have HO0 : Hid (OwnSt w2 w.heap.size (.slice (some ⟨w1.heap.size, 0, none⟩) 0 0) (partK s Z 0)) := HOa.out.below hb2
  have HS0 : Hid (w2.heap.size ≤ w2.heap.size) := Nat.le_refl _
  have HA0 : Hid (∀ b, (Value.slice (some ⟨w1.heap.size, 0, none⟩) 0 0).ownBlock = some b → b = w1.heap.size ∨ w2.heap.size ≤ b) := fun b hb => .inl (by simp [Value.ownBlock] at hb; exact hb.symm)
  clear hO2 hb2 HOa HBa
  go_wp2
  go_loopw [5, 6, 8] (fun o f y wr => ∃ (k p : Nat), k ≤ n2 ∧ y = .int .i64 k ∧ f = .int .i64 p ∧ Hid (lastP Z k = (p : Int)) ∧ p ≤ s.size ∧ Hid (OwnSt wr w.heap.size o (partK s Z k)) ∧ Hid (Below w.heap.size w wr) ∧ Hid (OwnInts wr (w1.heap.size + 1) (.slice a2 n2 c2) Z) ∧ Hid (∀ b, o.ownBlock = some b → b = w1.heap.size ∨ w2.heap.size ≤ b) ∧ Hid (w2.heap.size ≤ wr.heap.size)) (fun _ _ y _ => n2 - (intOf y).toNat)
  case atStart => exact ⟨0, 0, Nat.zero_le _, rfl, rfl, (show _ = _ from rfl), Nat.zero_le _, HO0, HB0, HZ0, HA0, HS0⟩
  case round =>
    clear HO0 HB0 HZ0 HA0 HS0
    obtain ⟨wo, rfl⟩ : ∃ wo, wo = wr := ⟨wr, rfl⟩
    obtain ⟨k, p, hk, rfl, rfl, HP, hps, HO, HB, HLV, HAP, HSZ⟩ := hrel
    have hszr := HB.out.size
    by_cases hlt : k < n2
    · obtain ⟨p', q, hp', hq, hpq, hqs⟩ := HC.out.step (k := k) (by rw [HN.out]; exact hlt)
      obtain rfl : p' = p := by have := HP.out; omega
      obtain ⟨g, rfl, _, hcell⟩ := HLV.out.cellQ hlt
      rw [hq] at hcell
      have HPK : Hid (partK s Z (k + 1) = partK s Z k ++ [s.extract p' q]) := by
        show partK s Z k ++ [s.extract (lastP Z k).toNat (Z.getD k 0).toNat] = _
        rw [hp', hq]; rfl
      have HQ : Hid (lastP Z (k + 1) = (q : Int)) := hq
      have hlk := partK_len s Z k
      have b1 : (0 : Int) ≤ (p' : Int) := by omega
      have b2 : (p' : Int) ≤ (q : Int) := by omega
      have b3 : (q : Int) ≤ (s.size : Int) := by omega
      have c1 : (0 : Int) ≤ (k : Int) := by omega
      have c2' : (k : Int) < (n2 : Int) := by omega
      clear hp' hq
      go_wp2_with (at_builtin; go_loud (refine wpList_append_stQ rfl _ _ rfl w.heap.size wo.heap.size (s.extract p' q) rfl rfl (HO.out.below ((Below.refl _ _).alloc (Nat.le_refl _) _)) (by first | exact new_stQ | simp) (by omega) (by first | (rw [World.size_alloc]; omega) | omega) ?_))
      intro v' w3 hO3 hg3 hat
      have hB3 := grown_st HB.out hszr HO.out hg3
      have HO3 : Hid (OwnSt w3 w.heap.size v' (partK s Z (k + 1))) := by rw [HPK.out]; exact hO3
      have HB3 := keptQ hB3
      have HAP3 : Hid (∀ b, v'.ownBlock = some b → b = w1.heap.size ∨ w2.heap.size ≤ b) := fun b hb => by
        rcases hat with h9 | h9
        · exact HAP.out b (h9.symm.trans hb)
        · rw [h9] at hb
          injection hb with hb
          right
          have := HSZ.out
          omega
      have HLV3 : Hid (OwnInts w3 (w1.heap.size + 1) (.slice (some ⟨g, 0, none⟩) n2 c2) Z) := (HLV.out.below ((Below.refl _ _).alloc (Nat.le_refl _) _)).kept hg3 (by
        cases hob : (Value.slice (some ⟨g, 0, none⟩) n2 c2).ownBlock with
        | none => exact .inl rfl
        | some b =>
          refine .inr fun e => ?_
          have h1 := HLT.out b hob
          have h2 := HAP.out b e.symm
          omega)
      have HSZ3 : Hid (w2.heap.size ≤ w3.heap.size) := by show _ ≤ _; have h1 := hg3.size; have h2 := HSZ.out; rw [World.size_alloc] at h1; omega
      obtain ⟨g', hg', _, hcell3⟩ := HLV3.out.cellQ hlt
      injection hg' with hg'
      injection hg' with hg' _ _
      subst hg'
      obtain ⟨_, q2, _, hq2, _, _⟩ := HC.out.step (k := k) (by rw [HN.out]; exact hlt)
      have hqq : Z.getD k 0 = (q : Int) := HQ.out
      rw [hqq] at hcell3
      clear hO3 hB3 hg3 hcell hat HLV HAP hq2 hqq
      go_wp2
      go_roundw
      case rel => exact ⟨k + 1, q, by omega, by go_num, rfl, HQ, hqs, HO3, HB3, HLV3, HAP3, HSZ3⟩
      case measure => simp [intOf]; omega
    · obtain rfl : k = n2 := by omega
      have HPF : Hid (parts s Z = partK s Z k ++ [s.extract p s.size]) := by
        show partK s Z Z.length ++ [s.extract (lastP Z Z.length).toNat s.size] = _
        rw [HN.out, HP.out]; rfl
      have hlk := partK_len s Z k
      have b1 : (0 : Int) ≤ (p : Int) := by omega
      have b2 : (p : Int) ≤ (s.size : Int) := by omega
      go_wp2_with (at_builtin; go_loud (refine wpList_append_stQ rfl _ _ rfl w.heap.size wo.heap.size (s.extract p s.size) rfl rfl (HO.out.below ((Below.refl _ _).alloc (Nat.le_refl _) _)) (by first | exact new_stQ | simp) (by omega) (by first | (rw [World.size_alloc]; omega) | omega) ?_))
      intro v' w3 hO3 hg3 _
      have hB3 := grown_st HB.out hszr HO.out hg3
      have HO3 : Hid (OwnSt w3 w.heap.size v' (parts s Z)) := by rw [HPF.out]; exact hO3
      have HB3 := keptQ hB3
      clear hO3 hB3 hg3
      go_wp2
      go_ret
      exact ⟨_, rfl, by rw [HZ.out]; exact HO3.out, HB3.out⟩
set_option maxHeartbeats 1000000 in
theorem i_DivideWord_no (w : World) (v : Value) (T : List PPat) (s : ByteArray) (hx : PatsAt w v T) (hf : PatsMid T) (hs : s.size ≤ 9223372036854775807) (hv : Hid (¬ OkH T s)) :
    Calls Try.prog 27 #[v, .string s] w fun e w' => TextsMadeQ [] w e w' := by
  have HX := keptQ hx
  obtain ⟨a, cp, rfl, _⟩ := hx
  have HF := keptQ hf
  clear hf
  by_cases hT : ValidPs T
  · have HWD : Hid (decide (WordB 16 s.data.toList) = false) := decide_eq_false fun h => hv.out ⟨hT, h⟩
    have HT := keptQ hT
    clear hT
    go_enter Try.func27, Try.ntmps27
    go_wp2_with fail
    refine (i_ValidPatterns w _ T true HX.out HF.out (show _ ↔ _ from ⟨fun _ => HT.out, fun _ => rfl⟩)).mono ?_
    rintro e w1 ⟨rfl, hb1⟩
    have HB1 := keptQ hb1
    clear hb1
    go_wp2_with fail
    refine (i_isWord_q s false w1 hs HWD).mono ?_
    rintro e w' ⟨rfl, rfl⟩
    go_wp2
    go_ret
    exact ⟨_, rfl, OwnSt.nil _ _, HB1.out⟩
  · have HT := keptQ hT
    clear hT
    go_enter Try.func27, Try.ntmps27
    go_wp2_with fail
    refine (i_ValidPatterns w _ T false HX.out HF.out (iff_no HT.out)).mono ?_
    rintro e w1 ⟨rfl, hb1⟩
    have HB1 := keptQ hb1
    clear hb1
    go_wp2
    go_ret
    exact ⟨_, rfl, OwnSt.nil _ _, HB1.out⟩
set_option maxHeartbeats 1000000 in
theorem s_DivideWord_no (w : World) (v : Value) (T : List PPat) (s : ByteArray) (hx : PatsAt w v T) (hf : PatsMid T) (hs : s.size ≤ 9223372036854775807) (hv : Hid (¬ OkH T s)) :
    Calls Try.prog 29 #[v, .string s] w fun e w' => TextsMadeQ [] w e w' := by
  have HX := keptQ hx
  obtain ⟨a, cp, rfl, _⟩ := hx
  have HF := keptQ hf
  clear hf
  by_cases hT : ValidPs T
  · have HWD : Hid (decide (WordB 16 s.data.toList) = false) := decide_eq_false fun h => hv.out ⟨hT, h⟩
    have HT := keptQ hT
    clear hT
    go_enter Try.func29, Try.ntmps29
    go_wp2_with fail
    refine (s_validPatterns w _ T true HX.out HF.out (show _ ↔ _ from ⟨fun _ => HT.out, fun _ => rfl⟩)).mono ?_
    rintro e w1 ⟨rfl, hb1⟩
    have HB1 := keptQ hb1
    clear hb1
    go_wp2_with fail
    refine (s_validWord_qt s false w1 hs HWD).mono ?_
    rintro e w' ⟨rfl, rfl⟩
    go_wp2
    go_ret
    exact ⟨_, rfl, OwnSt.nil _ _, HB1.out⟩
  · have HT := keptQ hT
    clear hT
    go_enter Try.func29, Try.ntmps29
    go_wp2_with fail
    refine (s_validPatterns w _ T false HX.out HF.out (iff_no HT.out)).mono ?_
    rintro e w1 ⟨rfl, hb1⟩
    have HB1 := keptQ hb1
    clear hb1
    go_wp2
    go_ret
    exact ⟨_, rfl, OwnSt.nil _ _, HB1.out⟩
end Go.Proofs.Ytpohkeenfbaklaa
