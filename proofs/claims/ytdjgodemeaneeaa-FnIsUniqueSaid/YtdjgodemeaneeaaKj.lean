
/- P188: code words of one length are told apart. -/
import Derived.Test.YtdjgodemeaneeaaKf
import Derived.Test.YtdjgodemeaneeaaKa
namespace Go.Proofs.Ytdjgodemeaneeaa
open Go.RowKit

theorem valid_iff (L : List (List Int)) : ValidCd L ↔ L.length ≤ 8 ∧ (∀ x ∈ L, CodeW x) ∧ L.Nodup := by
  constructor
  · rintro ⟨h1, h2, h3⟩
    refine ⟨h1, fun x hx => ?_, List.pairwise_iff_getElem.2 fun i j hi hj hij => ?_⟩
    · obtain ⟨i, hi, rfl⟩ := List.getElem_of_mem hx
      have := h2 i hi
      rw [List.getD_eq_getElem?_getD, List.getElem?_eq_getElem hi, Option.getD_some] at this
      exact this
    · have := h3 j i hj hij
      rw [List.getD_eq_getElem?_getD, List.getD_eq_getElem?_getD, List.getElem?_eq_getElem hi, List.getElem?_eq_getElem hj, Option.getD_some, Option.getD_some] at this
      exact this
  · rintro ⟨h1, h2, h3⟩
    refine ⟨h1, fun i hi => ?_, fun i j hi hj => ?_⟩
    · rw [List.getD_eq_getElem?_getD, List.getElem?_eq_getElem hi, Option.getD_some]
      exact h2 _ (List.getElem_mem _)
    · rw [List.getD_eq_getElem?_getD, List.getD_eq_getElem?_getD, List.getElem?_eq_getElem hi, List.getElem?_eq_getElem (by omega : j < L.length), Option.getD_some, Option.getD_some]
      exact List.pairwise_iff_getElem.1 h3 j i (by omega) hi hj
theorem uniq_pfJ {L : List (List Int)} (h : PFree L) : Uniq L := by
  have e : restN L 0 = [] := (putAll_nil L.length).2 h
  exact ⟨0, ⟨fun i hi => absurd hi (by omega), by rw [e]; exact Nat.le_refl _⟩, fun i hi => absurd hi (by omega)⟩
/-- those of the first k words that have n cells -/
def evenTo (P : List (List Int)) (n k : Nat) : List (List Int) := (P.take k).filter fun x => decide (x.length = n)
theorem evenTo_len (P : List (List Int)) (n k : Nat) : (evenTo P n k).length ≤ k := by
  have h1 := List.length_filter_le (fun x : List Int => decide (x.length = n)) (P.take k)
  rw [List.length_take] at h1
  unfold evenTo
  omega
theorem take_succJ {A : List (List Int)} {k : Nat} (h : k < A.length) : A.take (k + 1) = A.take k ++ [A.getD k []] := by
  rw [List.take_add_one, List.getD_eq_getElem?_getD, List.getElem?_eq_getElem h]; rfl
theorem evenTo_hit {P : List (List Int)} {n k : Nat} (hk : k < P.length) (h : (P.getD k []).length = n) : evenTo P n (k + 1) = evenTo P n k ++ [P.getD k []] := by
  unfold evenTo
  rw [take_succJ hk, List.filter_append]
  generalize P.getD k [] = x at h ⊢
  simp [h]
theorem evenTo_miss {P : List (List Int)} {n k : Nat} (hk : k < P.length) (h : ¬ (P.getD k []).length = n) : evenTo P n (k + 1) = evenTo P n k := by
  unfold evenTo
  rw [take_succJ hk, List.filter_append]
  generalize P.getD k [] = x at h ⊢
  simp [h]
theorem even_valid {P : List (List Int)} (hv : ValidCd P) (n : Nat) : ValidCd (evenTo P n P.length) ∧ PFree (evenTo P n P.length) := by
  obtain ⟨h1, h2, h3⟩ := (valid_iff P).1 hv
  unfold evenTo
  rw [List.take_length]
  have hmem : ∀ x ∈ P.filter (fun x => decide (x.length = n)), x ∈ P ∧ x.length = n := fun x hx => by
    have := List.mem_filter.1 hx
    exact ⟨this.1, of_decide_eq_true this.2⟩
  refine ⟨(valid_iff _).2 ⟨Nat.le_trans (List.length_filter_le _ _) h1, fun x hx => h2 x (hmem x hx).1, h3.filter _⟩, fun i hi j hj hp => ?_⟩
  have e1 := (hmem _ (lmem_of_getD rfl hi rfl)).2
  have e2 := (hmem _ (lmem_of_getD rfl hj rfl)).2
  have := hp.1
  omega
set_option maxHeartbeats 2000000 in
theorem isUniqueEven_walk (a : Option Addr) (len cap : Nat) (zs : List Int) (w : World) (h : RowIn .u8 w a len cap zs) :
    Calls Try.prog 11 #[.slice a len cap] w fun e w' => e = .returned (.bool true) ∧ Below w.heap.size w w' := by
  have hlen : len ≤ 9223372036854775807 := by
    obtain ⟨_, h2, h3⟩ := bytesAt_of_row h; unfold maxLen at h3; omega
  by_cases hbig : len ≤ 1048576
  · go_enter Try.func11, Try.ntmps11
    go_wp2_with fail
    refine (drawIsUnique_any w a len cap zs h).mono ?_
    rintro e w1 ⟨S, a1, n1, c1, P, rfl, hO, hP, hL3, hb1⟩
    clear h
    have HX1 := keptC hO
    have HB1 := keptC hb1
    have HPN : Hid (P.length = n1) := by
      obtain ⟨_, _, e⟩ := listOf hO.at
      injection e with _ e2 _
      exact e2.symm
    have hn9 : n1 ≤ 9 := by have := HPN.out; omega
    clear hO hb1 hP hL3
    obtain ⟨b, hb⟩ := ValidCd.b P
    obtain ⟨u, hu⟩ := Uniq.b P
    have HB := keptC hb
    have HU := keptC hu
    clear hb hu
    obtain ⟨q, hq⟩ : ∃ q, (b && u) = q := ⟨_, rfl⟩
    have HI : Hid (∀ wx v, ListsAt wx v P → Calls Try.prog 29 #[v] wx fun e w' => e = .returned (.bool q) ∧ Below wx.heap.size wx w') := fun wx v h => by rw [← hq]; exact i_IsUnique wx v P b u h HB HU
    have HS : Hid (∀ wx v, ListsAt wx v P → Calls Try.prog 30 #[v] wx fun e w' => e = .returned (.bool q) ∧ Below wx.heap.size wx w') := fun wx v h => by rw [← hq]; exact s_IsUnique wx v P b u h HB HU
    clear hq
    go_wp2_with fail
    refine (HI.out w1 _ HX1.out.at).mono ?_
    rintro e w2 ⟨rfl, hb2⟩
    have HX2 := keptC (HX1.out.below hb2)
    have HB2 := keptC (below_next HB1.out hb2)
    clear hb2
    go_wp2_with fail
    refine (HS.out w2 _ HX2.out.at).mono ?_
    rintro e w3 ⟨rfl, hb3⟩
    have HX3 := keptC (HX2.out.below hb3)
    have HB3 := keptC (below_next HB2.out hb3)
    clear hb3
    go_wp2_with fail
    refine (i_ValidCode w3 _ P b HX3.out.at HB).mono ?_
    rintro e w4 ⟨rfl, hb4⟩
    have HX4 := keptC (HX3.out.below hb4)
    have HB4 := keptC (below_next HB3.out hb4)
    clear hb4
    cases b with
    | false =>
      go_wp2_with fail
      refine (HS.out w4 _ HX4.out.at).mono ?_
      rintro e w5 ⟨rfl, hb5⟩
      have FIN := keptC (below_next HB4.out hb5)
      clear hb5
      go_wp2
      go_ret
      exact ⟨by simp, FIN.out⟩
    | true =>
      have HVV : Hid (ValidCd P) := HB.out.1 rfl
      clear HB HU HI HS
      go_wp2_with fail
      go_loopw [5] (fun y wr => ∃ n : Nat, 1 ≤ n ∧ n ≤ 5 ∧ y = .int .i64 n ∧ Below w4.heap.size w4 wr) (fun y _ => 5 - (intOf y).toNat)
      case atStart => exact ⟨1, by omega, by omega, rfl, Below.refl _ _⟩
      case round =>
        obtain ⟨wo, rfl⟩ : ∃ wo, wo = wr := ⟨wr, rfl⟩
        obtain ⟨n, hn1, hn5, rfl, hbo⟩ := hrel
        by_cases hn4 : n ≤ 4
        · have d1 : decide ((n : Int) ≤ 4) = true := decide_eq_true (by omega)
          have hO0 := OwnLs.made wo wo.heap.size 0 (Nat.zero_le _) (Nat.le_refl _)
          have hal : Below wo.heap.size wo (wo.alloc (.cells #[] 31)) := (Below.refl _ _).alloc (Nat.le_refl _) _
          have HBO := keptC hbo
          clear hbo
          go_wp2_with fail
          generalize (wo.alloc (.cells #[] 31)) = wA at hO0 hal ⊢
          go_loopw [6, 7] (fun o y wx => ∃ i : Nat, i ≤ n1 ∧ y = .int .i64 i ∧ OwnLs wx wo.heap.size 0 o (evenTo P n i) ∧ Below wo.heap.size wo wx) (fun _ y _ => n1 - (intOf y).toNat)
          case atStart => exact ⟨0, Nat.zero_le _, rfl, by unfold evenTo; exact hO0, hal⟩
          case round =>
            clear hO0 hal
            obtain ⟨i, hi, rfl, hO, hB⟩ := hrel
            obtain ⟨ao, no, co, hoo⟩ := hO.isSlice
            subst hoo
            have HO := keptC hO
            have HB := keptC hB
            have hs := hB.size
            by_cases hlt : i < n1
            · obtain ⟨g, u3, rfl, c1, hE3, hnx⟩ := (HX4.out.below (below_next HBO.out hB)).nth hlt
              clear hnx
              obtain ⟨wd, hwd⟩ : ∃ wd, P.getD i [] = wd := ⟨_, rfl⟩
              rw [hwd] at hE3
              obtain ⟨a3, c3, hu3, _⟩ := id hE3.1
              obtain ⟨l, hl⟩ : ∃ l, wd.length = l := ⟨_, rfl⟩
              rw [hl] at hu3
              subst hu3
              have HE3 := keptC hE3
              have hev := evenTo_len P n i
              have HEV : Hid ((evenTo P n i).length ≤ 1000) := by show _ ≤ _; omega
              have b1 : (0 : Int) ≤ (i : Int) := by omega
              have b2 : (i : Int) < (n1 : Int) := by omega
              clear hO hB hE3 hev
              by_cases hln : l = n
              · have q1 : ((l : Int) == (n : Int)) = true := by simp; omega
                have HST : Hid (evenTo P n (i + 1) = evenTo P n i ++ [wd]) := by
                  show _ = _
                  rw [evenTo_hit (by rw [HPN.out]; exact hlt) (by rw [hwd, hl]; exact hln), hwd]
                have hala : Below wr.heap.size wr (wr.alloc (.cells #[.slice a3 l c3] 31)) := (Below.refl _ _).alloc (Nat.le_refl _) _
                have HO8 := keptC (HO.out.below hala)
                have HE8 := keptC (HE3.out.below hala)
                have HC8 : Hid ((wr.alloc (.cells #[.slice a3 l c3] 31)).cell? ⟨wr.heap.size, 0, none⟩ = some (.slice a3 l c3)) := by
                  show _ = _
                  rw [cell_of_row _ wr.heap.size 0 _ _ _ (heap_alloc_new wr _)]; rfl
                have HS8 : Hid ((evenTo P n i).length ≤ 100000 ∧ wo.heap.size ≤ (wr.alloc (.cells #[.slice a3 l c3] 31)).heap.size) := ⟨by have := HEV.out; omega, Nat.le_trans hs hala.size⟩
                clear hala hln hwd hl
                go_wp2_with (at_builtin; go_loud (refine wpList_append_ls rfl _ _ rfl wo.heap.size 0 wr.heap.size wd rfl rfl HO8.out HC8.out HE8.out rfl HS8.out.1 HS8.out.2 ?_))
                intro v9 w9 hown9 hgrow9
                have HO9 := keptC hown9
                have HB9 := keptC (grown_ls HB.out hs HO.out hgrow9)
                clear hown9 hgrow9
                go_wp2
                go_roundw
                case rel => exact ⟨i + 1, by omega, by go_num, by rw [HST.out]; exact HO9.out, HB9.out⟩
                case measure => simp [intOf]; omega
              · have q1 : ((l : Int) == (n : Int)) = false := by simp; omega
                have HST : Hid (evenTo P n (i + 1) = evenTo P n i) := by
                  show _ = _
                  rw [evenTo_miss (by rw [HPN.out]; exact hlt) (by rw [hwd, hl]; exact hln)]
                clear hln hwd hl
                go_wp2
                go_roundw
                case rel => exact ⟨i + 1, by omega, by go_num, by rw [HST.out]; exact HO.out, HB.out⟩
                case measure => simp [intOf]; omega
            · obtain rfl : n1 = i := by omega
              obtain ⟨hvq, hpq⟩ := even_valid HVV.out n
              rw [HPN.out] at hvq hpq
              have HVQ := keptC hvq
              have HPQ : Hid (decide (PFree (evenTo P n n1)) = true) := decide_eq_true hpq
              have HUQ : Hid (Uniq (evenTo P n n1)) := uniq_pfJ hpq
              clear hO hB hvq hpq
              go_wp2_with fail
              refine (i_IsUnique wr _ (evenTo P n n1) true true HO.out.at (show _ ↔ _ from ⟨fun _ => HVQ.out, fun _ => rfl⟩) (show _ ↔ _ from ⟨fun _ => HUQ.out, fun _ => rfl⟩)).mono ?_
              rintro e w6 ⟨rfl, hb6⟩
              have HO6 := keptC (HO.out.below hb6)
              have HB6 := keptC (below_next HB.out hb6)
              clear hb6
              go_wp2_with fail
              refine (i_IsPrefixFree w6 _ (evenTo P n n1) true HO6.out.at HVQ HPQ).mono ?_
              rintro e w7 ⟨rfl, hb7⟩
              have HB7 := keptC (below_next HBO.out (below_next HB6.out hb7))
              clear hb7
              go_wp2
              go_roundw
              case rel => exact ⟨n + 1, by omega, by omega, by go_num, HB7.out⟩
              case measure => simp [intOf]; omega
        · have d1 : decide ((n : Int) ≤ 4) = false := decide_eq_false (by omega)
          have FIN := keptC (below_next HB4.out hbo)
          clear hbo
          go_wp2
          go_ret
          exact ⟨rfl, FIN.out⟩
  · have hbig' : 1048576 < len := by omega
    go_enter Try.func11, Try.ntmps11
    go_wp2
    go_ret
    exact ⟨rfl, Below.refl _ _⟩
end Go.Proofs.Ytdjgodemeaneeaa
