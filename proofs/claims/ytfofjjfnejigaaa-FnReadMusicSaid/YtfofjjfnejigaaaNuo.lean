
/- ReadMusic of the program. -/
import Derived.Test.YtfofjjfnejigaaaNun
import Derived.Test.YtfofjjfnejigaaaNtf
import Derived.Test.YtfofjjfnejigaaaCc
import Derived.Test.YtfofjjfnejigaaaVal
namespace Go.Proofs.Ytfofjjfnejigaaa
open Go.RowKit

theorem noIs_ok {c o l : Int} {x : PNote} (h : NoIs c o l x true) : NtOk x := by
  rcases h with ⟨v, h1, _, rfl, _⟩ | ⟨v, s, p, h1, _, _, _, rfl, h6⟩ | ⟨_, h⟩
  · exact ⟨by simp, by simp, h1.1, h1.2⟩
  · have := h6.1 rfl
    exact ⟨by simp only; omega, this.2, h1.1, h1.2⟩
  · simp at h
theorem runI_bd {cells : List Int} : ∀ {k Q l o}, RunI cells k Q l o → (-1 ≤ l ∧ l ≤ 48) ∧ (-1 ≤ o ∧ o ≤ 6) ∧ Q.length ≤ k := by
  intro k Q l o h
  induction h with
  | zero => simp
  | mark h _ h1 h2 ih => have := (octIs_in h1 h2).2.1; exact ⟨ih.1, by omega, by have := ih.2.2; omega⟩
  | @note k Q l o x h _ _ h2 ih =>
    have hb := noIs_ok h2
    refine ⟨?_, by omega, by have := ih.2.2; simp; omega⟩
    split
    · exact ih.1
    · exact ⟨hb.1, hb.2.1⟩
def ReadOut (cells : List Int) (w : World) (e : Ending) (w' : World) : Prop :=
  (∃ a n c P l o, e = .returned (.tuple #[.slice a n c, .bool true]) ∧ OwnNt w' w.heap.size (.slice a n c) P ∧ RunI cells cells.length P l o ∧ Below w.heap.size w w') ∨
  (∃ k P l o x, e = .returned (.tuple #[.slice none 0 0, .bool false]) ∧ k < cells.length ∧ RunI cells k P l o ∧ cells.getD k 0 ∉ octL ∧ NoIs (cells.getD k 0) o l x false ∧ Below w.heap.size w w')
theorem IntsAt.nthR {w : World} {a : Option Addr} {n c k : Nat} {zs : List Int} (h : IntsAt w (.slice a n c) zs) (hk : k < n) : ∃ g off, a = some ⟨g, off, none⟩ ∧ w.cell? ⟨g, off + k, none⟩ = some (.int .i64 (zs.getD k 0)) := by
  obtain ⟨a', c', e, _, _, h4⟩ := h
  injection e with e1 e2 e3
  subst e1
  rcases h4 with rfl | ⟨g, off, rfl, h5⟩
  · simp at e2; omega
  · exact ⟨g, off, rfl, h5 k (by omega)⟩
set_option maxHeartbeats 2000000 in
theorem i_readNotes (w : World) (v : Value) (cells : List Int) (hx : IntsAt w v cells) (hl : cells.length ≤ 10000000) :
    Calls Try.prog 39 #[v] w fun e w' => ReadOut cells w e w' := by
  have HX := keptN hx
  obtain ⟨a, cp, rfl, x1, x2, _⟩ := hx
  obtain ⟨n, hn⟩ : ∃ n, cells.length = n := ⟨_, rfl⟩
  rw [hn] at x1 HX hl ⊢
  have HN := Lib.hid hn
  clear hn
  go_enter Try.func39, Try.ntmps39
  go_wp2
  go_loopw [4, 5, 6, 13] (fun o l c i wr => ∃ (k : Nat) (P : List PNote) (la oc : Int), k ≤ n ∧ i = .int .i64 k ∧ l = .int .i64 la ∧ c = .int .i64 oc ∧ RunI cells k P la oc ∧ OwnNt wr w.heap.size o P ∧ Below w.heap.size w wr) (fun _ _ _ i _ => n - (intOf i).toNat)
  case atStart => exact ⟨0, [], -1, -1, Nat.zero_le _, rfl, rfl, rfl, .zero, OwnNt.nil _ _, Below.refl _ _⟩
  case round =>
    obtain ⟨k, P, la, oc, hk, rfl, rfl, rfl, hrun, hO, hb1⟩ := hrel
    have hsz := hb1.size
    obtain ⟨ao, no, co, hoo⟩ := hO.isSlice
    subst hoo
    by_cases hlt : k < n
    · obtain ⟨g, off, rfl, c0⟩ := (HX.out.below hb1).nthR hlt
      obtain ⟨c, hc⟩ : ∃ c, cells.getD k 0 = c := ⟨_, rfl⟩
      rw [hc] at c0
      have HC := Lib.hid hc
      obtain ⟨bl, bo, bq⟩ := runI_bd hrun
      have HRUN := keptN hrun
      have HO := keptN hO
      have HB := keptN hb1
      have b1 : (0 : Int) ≤ (k : Int) := by omega
      have b2 : (k : Int) < (n : Int) := by omega
      clear hc hrun hO hb1
      go_wp2_with fail
      refine (i_octaveOf _ c).mono ?_
      rintro e w2 ⟨⟨r, rfl, hr⟩, rfl⟩
      by_cases hr0 : 0 ≤ r
      · have d0 : decide (0 ≤ r) = true := decide_eq_true hr0
        have hin := (octIs_in hr hr0).1
        have HIN : Hid (c ∈ octL) := hin
        clear hr hin
        go_wp2_with fail
        refine (i_octaveOf _ c).mono ?_
        rintro e w2 ⟨⟨r2, rfl, hr2⟩, rfl⟩
        have h02 : 0 ≤ r2 := by
          rcases hr2 with ⟨h, _⟩ | ⟨_, h⟩
          · exact h
          · exact absurd HIN.out h
        have HNX : Hid (RunI cells (k + 1) P la r2) := .mark HRUN.out (by rw [HN.out]; exact hlt) (by rw [HC.out]; exact hr2) h02
        clear hr2 h02
        go_wp2
        go_roundw
        case rel => exact ⟨k + 1, P, la, r2, by omega, by go_num, rfl, rfl, HNX.out, HO.out, HB.out⟩
        case measure => simp [intOf]; omega
      · have d0 : decide (0 ≤ r) = false := decide_eq_false hr0
        have HNO : Hid (c ∉ octL) := by
          rcases hr with ⟨h, _⟩ | ⟨_, h⟩
          · omega
          · exact h
        clear hr
        go_wp2_with fail
        refine (i_noteOf _ c oc la bo bl).mono ?_
        rintro e w2 ⟨p, f, ok, rfl, hno, hb2⟩
        have HBX := keptN (HB.out.trans (hb2.mono hsz))
        have HOX := keptN (HO.out.below hb2)
        have hs2 := HBX.out.size
        clear hb2 HB HO
        cases ok with
        | false =>
          have HST := keptN hno
          clear hno
          go_wp2
          refine bodyPost_ret (results_twoN rfl _ _ _) rfl ?_
          exact .inr ⟨k, P, la, oc, ⟨p, f⟩, rfl, by rw [HN.out]; exact hlt, HRUN.out, by rw [HC.out]; exact HNO.out, by rw [HC.out]; exact HST.out, HBX.out.alloc hs2 _⟩
        | true =>
          have HNX : Hid (RunI cells (k + 1) (P ++ [⟨p, f⟩]) (if p = -1 then la else p) (-1)) := .note HRUN.out (by rw [HN.out]; exact hlt) (by rw [HC.out]; exact HNO.out) (by rw [HC.out]; exact hno)
          clear hno
          have hW1 := HBX.out.alloc hs2 (.cells #[.int .i64 p, .int .i64 f] 35)
          have hnb := heap_alloc_new w2 (.cells #[.int .i64 p, .int .i64 f] 35)
          have hO1 := HOX.out.below ((Below.refl _ _).alloc (Nat.le_refl _) (.cells #[.int .i64 p, .int .i64 f] 35))
          have hob : Hid (∀ b, (Value.slice ao no co).ownBlock = some b → b < w2.heap.size) := fun b hb => (World.ownsRow.lt HOX.out b hb).2
          have hA2 := noteAt_alloc (w2.alloc (.cells #[.int .i64 p, .int .i64 f] 35)) ⟨p, f⟩
          rw [World.size_alloc] at hA2
          have HW1 := keptN hW1
          have HNB := keptN hnb
          have HO1 := keptN hO1
          have HA2 := keptN hA2
          have HOA := keptN (hO1.below ((Below.refl _ _).alloc (Nat.le_refl _) (.cells #[.int .i64 p, .int .i64 f] 35)))
          have hs9 : w.heap.size ≤ ((w2.alloc (.cells #[.int .i64 p, .int .i64 f] 35)).alloc (.cells #[.int .i64 p, .int .i64 f] 35)).heap.size := by simp; omega
          have HS9 := keptN hs9
          clear hW1 hnb hO1 hA2 hs9
          go_wp2_with (at_builtin; go_loud (refine wpList_append_note rfl _ _ rfl w.heap.size (w2.heap.size + 1) ⟨p, f⟩ rfl rfl HOA.out HA2.out (by omega) HS9.out ?_))
          intro v5 w5 hO5 hg5
          have hB5 := grown_nt HW1.out HW1.out.size HO1.out hg5
          have hnb5 : w5.heap[w2.heap.size]? = some (.cells #[.int .i64 p, .int .i64 f] 35 (0, 0)) := ((hg5.block w2.heap.size (by simp; omega) (fun e => by have := hob.out _ e.symm; omega)).trans (Below.heap_alloc _ _ _ (by simp))).trans HNB.out
          have n0 : w5.cell? ⟨w2.heap.size, 0, none⟩ = some (.int .i64 p) := by rw [cell_of_row w5 _ 0 _ _ _ hnb5]; rfl
          have NXT := keptN (And.intro hO5 hB5)
          clear hO5 hB5 hg5 hnb5 HOA HA2 HO1 HW1 HNB
          by_cases hp : p = -1
          · have d1 : (p != -1) = false := by simpa using hp
            have HNX2 : Hid (RunI cells (k + 1) (P ++ [⟨p, f⟩]) la (-1)) := by have := HNX.out; rw [if_pos hp] at this; exact this
            clear hp
            go_wp2
            go_roundw
            case rel => exact ⟨k + 1, _, la, -1, by omega, by go_num, rfl, rfl, HNX2.out, NXT.out.1, NXT.out.2⟩
            case measure => simp [intOf]; omega
          · have d1 : (p != -1) = true := by simpa using hp
            have HNX2 : Hid (RunI cells (k + 1) (P ++ [⟨p, f⟩]) p (-1)) := by have := HNX.out; rw [if_neg hp] at this; exact this
            clear hp
            go_wp2
            go_roundw
            case rel => exact ⟨k + 1, _, p, -1, by omega, by go_num, rfl, rfl, HNX2.out, NXT.out.1, NXT.out.2⟩
            case measure => simp [intOf]; omega
    · obtain rfl : k = n := by omega
      have NXT := keptN (And.intro hO (And.intro hrun hb1))
      clear hO hrun hb1
      go_wp2
      refine bodyPost_ret (results_twoN rfl _ _ _) rfl ?_
      exact .inl ⟨_, _, _, P, la, oc, rfl, NXT.out.1, by rw [HN.out]; exact NXT.out.2.1, NXT.out.2.2⟩
end Go.Proofs.Ytfofjjfnejigaaa
