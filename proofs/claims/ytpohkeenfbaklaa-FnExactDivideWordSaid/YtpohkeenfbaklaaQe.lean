
/- Marks written into a copied list of patterns. -/
import Derived.Test.YtpohkeenfbaklaaQc
import Derived.Laws.IdiomStrings
import Derived.Lib.BufferRead
namespace Go.Proofs.Ytpohkeenfbaklaa
open Go.RowKit

set_option maxHeartbeats 1000000 in
theorem markIntS_g (w : World) (base b n cap : Nat) (zs : List Int) (s : Int) (hx : OwnInts w base (.slice (some ⟨b, 0, none⟩) n cap) zs) (hn : Hid (zs.length = n)) (h0 : 0 ≤ s) (h1 : s ≤ 1000000000000000000) (hl : n ≤ 4000000000000000000) :
    Calls Try.prog 35 #[.slice (some ⟨b, 0, none⟩) n cap, .int .i64 s] w fun e w' => e = .returned (.int .i64 (s + n)) ∧ w.grownBy w' (some b) := by
  have hO0 : OwnInts w base (.slice (some ⟨b, 0, none⟩) n cap) (marked zs s 0) := by rw [marked_zero]; exact hx
  clear hx
  go_enter Try.func35, Try.ntmps35
  go_wp2
  go_loopw [1, 5] (fun m i wr => ∃ k : Nat, k ≤ n ∧ i = .int .i64 k ∧ m = .int .i64 (s + k) ∧ OwnInts wr base (.slice (some ⟨b, 0, none⟩) n cap) (marked zs s k) ∧ w.grownBy wr (some b)) (fun _ i _ => n - (intOf i).toNat)
  case atStart => exact ⟨0, Nat.zero_le _, rfl, by simp, hO0, ⟨rfl, rfl, rfl, Nat.le_refl _, fun _ _ _ => rfl⟩⟩
  case round =>
    clear hO0
    obtain ⟨k, hk, rfl, rfl, hO, hB⟩ := hrel
    by_cases hlt : k < n
    · have hml : (marked zs s k).length = n := by rw [marked_length zs s k (by have := hn.out; omega), hn.out]
      have hO2 := hO.store hml k (s + k)
      rw [marked_set zs s k (by have := hn.out; omega)] at hO2
      have hB2 : w.grownBy (wr.setCell ⟨b, k, none⟩ (.int .i64 (s + k))) (some b) := by
        have h := (hO.stored' hml k (.int .i64 (s + k)))
        exact ⟨h.os.trans hB.os, h.tape.trans hB.tape, h.output.trans hB.output, Nat.le_trans hB.size h.size, fun i hi hne => (h.block i (Nat.lt_of_lt_of_le hi hB.size) hne).trans (hB.block i hi hne)⟩
      have hc := hO.cell hml hlt
      have hf := hO.free hml k
      clear hO hB hml
      go_wp2
      go_roundw
      case rel => exact ⟨k + 1, by omega, by go_num, by go_num, hO2, hB2⟩
      case measure => simp [intOf]; omega
    · go_wp2
      go_ret
      obtain rfl : k = n := by omega
      exact ⟨rfl, hB⟩

set_option maxHeartbeats 1000000 in
theorem markText_any (w : World) (k : Int) (h0 : 1 ≤ k) (h1 : k ≤ 10000000000000) :
    Calls Try.prog 54 #[.int .i64 k] w fun e w' => (∃ s : ByteArray, e = .returned (.string s)) ∧ Below w.heap.size w w' := by
  have d0 : decide (k ≤ 0) = false := decide_eq_false (by omega)
  go_enter Try.func54, Try.ntmps54
  go_wp2
  go_loopw [0, 3] (fun q t wr => ∃ (m : Nat) (s : ByteArray), q = .int .i64 m ∧ t = .string s ∧ m + s.size ≤ 10000000000000 ∧ Below w.heap.size w wr) (fun q _ _ => (intOf q).toNat)
  case atStart => exact ⟨k.toNat, ⟨#[]⟩, by rw [Int.toNat_of_nonneg (by omega)], rfl, by simp [ByteArray.size]; omega, Below.refl _ _⟩
  case round =>
    obtain ⟨m, s, rfl, rfl, hms, hb1⟩ := hrel
    by_cases hm : 0 < m
    · have d1 : decide ((0 : Int) < (m : Int)) = true := decide_eq_true (by omega)
      obtain ⟨d, hd⟩ : ∃ d, m % 10 = d := ⟨_, rfl⟩
      obtain ⟨q, hq⟩ : ∃ q, m / 10 = q := ⟨_, rfl⟩
      have hd10 : d < 10 := by omega
      have hqm : q + 1 ≤ m := by omega
      have t1 : ((m : Int)).tmod 10 = (d : Int) := by rw [Int.tmod_eq_emod_of_nonneg (by omega), ← hd]; simp
      have t2 : ((m : Int)).tdiv 10 = (q : Int) := by rw [Int.tdiv_eq_ediv_of_nonneg (by omega), ← hq]; simp
      have t3 : ((m : Int)) % 10 = (d : Int) := by omega
      have t4 : ((m : Int)) / 10 = (q : Int) := by omega
      have hb : (UInt8.ofNat (48 + d)).toNat = 48 + d := by simp; omega
      obtain ⟨b, hbb⟩ : ∃ b : UInt8, UInt8.ofNat (48 + d) = b := ⟨_, rfl⟩
      rw [hbb] at hb
      have u3 : IntKind.u8.wrap (48 + (d : Int)) = (b.toNat : Int) := by rw [hb]; simp [IntKind.wrap, IntKind.bits, IntKind.signed]; omega
      have u1 : IntKind.i64.wrap (d : Int) = d := IntWalk.i64_in _ (by omega)
      have u2 : IntKind.i64.wrap (48 + (d : Int)) = 48 + (d : Int) := IntWalk.i64_in _ (by omega)
      have u4 : IntKind.i64.wrap (q : Int) = q := IntWalk.i64_in _ (by omega)
      have hcv := run_convert_bytes_back (P := Try.prog) (wr.alloc (.cells #[.int .u8 (b.toNat : Int)] 5)) 22 9 5 ⟨wr.heap.size, 0, none⟩ 1 [b] Try.underlying22 Try.underlying5 Try.underlying9 (by
        intro j hj
        obtain rfl : j = 0 := by simpa using hj
        simp [Addr.add])
      rw [show [b].length = 1 from rfl] at hcv
      have hz : (⟨#[b]⟩ : ByteArray).size = 1 := rfl
      have r1 := fun wx => run_string_add_sum (P := Try.prog) wx (⟨#[b]⟩ : ByteArray) s (by omega)
      have hz2 : ((⟨#[b]⟩ : ByteArray) ++ s).size = 1 + s.size := by rw [ByteArray.size_append]; rfl
      have hfin : q + ((⟨#[b]⟩ : ByteArray) ++ s).size ≤ 10000000000000 := by omega
      have HF := Lib.hid hfin
      have hszr := hb1.size
      clear hd hq hb hbb hz hz2 hfin
      go_wp2
      go_roundw
      case rel => exact ⟨q, _, rfl, rfl, HF.out, hb1.alloc hszr _⟩
      case measure => simp [intOf]; omega
    · have d1 : decide ((0 : Int) < (m : Int)) = false := decide_eq_false (by omega)
      go_wp2
      go_ret
      exact ⟨⟨_, rfl⟩, hb1⟩

/-- only blocks from g on, below B, have turned, of those that were there -/
def Mid (g B : Nat) (w w' : World) : Prop := w'.os = w.os ∧ w'.tape = w.tape ∧ w'.output = w.output ∧ w.heap.size ≤ w'.heap.size ∧ ∀ k, k < w.heap.size → (k < g ∨ B ≤ k) → w'.heap[k]? = w.heap[k]?
theorem Mid.refl (g B : Nat) (w : World) : Mid g B w w := ⟨rfl, rfl, rfl, Nat.le_refl _, fun _ _ _ => rfl⟩
theorem Mid.trans {g B : Nat} {a b c : World} (h : Mid g B a b) (k : Mid g B b c) : Mid g B a c :=
  ⟨k.1.trans h.1, k.2.1.trans h.2.1, k.2.2.1.trans h.2.2.1, Nat.le_trans h.2.2.2.1 k.2.2.2.1, fun i hi hne => (k.2.2.2.2 i (Nat.lt_of_lt_of_le hi h.2.2.2.1) hne).trans (h.2.2.2.2 i hi hne)⟩
theorem Mid.of_below {g B : Nat} {a b : World} (h : Below a.heap.size a b) : Mid g B a b := ⟨h.os, h.tape, h.output, h.size, fun k hk _ => h.block k hk⟩
theorem Mid.of_grown {g B k : Nat} {a b : World} (h : a.grownBy b (some k)) (h1 : g ≤ k) (h2 : k < B) : Mid g B a b := ⟨h.os, h.tape, h.output, h.size, fun i hi hne => h.block i hi (by simp; omega)⟩
theorem Mid.of_set {g B : Nat} (a : World) (k o : Nat) (u : Value) (h1 : g ≤ k) (h2 : k < B) : Mid g B a (a.setCell ⟨k, o, none⟩ u) :=
  ⟨rfl, rfl, rfl, by simp [World.setCell], fun i _ hne => Below.heap_setCell a _ u i (by show i ≠ k; omega)⟩

set_option maxHeartbeats 2000000 in
theorem markPatternS_any (w : World) (g n B : Nat) (bs : Nat → Nat) (T : List PPat) (hN : NewToQ w g bs T n) (hR : RoomQ w g n) (hbs : ∀ j, j < n → bs j < B) (hg : g < B) (hs : PatsSmall T) (hn : Hid (T.length = n)) :
    Calls Try.prog 34 #[.slice (some ⟨g, 0, none⟩) n n, .int .i64 1] w fun e w' => (∃ k : Int, e = .returned (.int .i64 k) ∧ 0 ≤ k ∧ k ≤ 10000000000000) ∧ Mid g B w w' := by
  have hbig : n ≤ 1048576 := by have := hs.1; have := hn.out; omega
  have HI := Lib.hid hN.2
  have HS := Lib.hid hs.2
  have HBS := Lib.hid hbs
  have hN1 : Hid (∀ j, 0 ≤ j → j < n → PatNew w g (j * 4) (bs j) (T.getD j noQ)) := fun j _ hj => hN.1 j hj
  clear hN hs hbs
  go_enter Try.func34, Try.ntmps34
  go_wp2
  go_loopw [1, 5] (fun q i wr => ∃ (k : Nat) (m : Int), k ≤ n ∧ i = .int .i64 k ∧ q = .int .i64 m ∧ 1 ≤ m ∧ m ≤ 1 + (k : Int) * 1048580 ∧ Hid (∀ j, k ≤ j → j < n → PatNew wr g (j * 4) (bs j) (T.getD j noQ)) ∧ RoomQ wr g n ∧ Mid g B w wr) (fun _ i _ => n - (intOf i).toNat)
  case atStart => exact ⟨0, 1, Nat.zero_le _, rfl, rfl, by omega, by omega, hN1, hR, Mid.refl _ _ _⟩
  case round =>
    clear hN1 hR
    obtain ⟨k, m, hk, rfl, rfl, hm0, hm1, hnew, hroom, hmid⟩ := hrel
    by_cases hlt : k < n
    · obtain ⟨r, hr⟩ : ∃ r, T.getD k noQ = r := ⟨_, rfl⟩
      have hrn := hnew.out k (Nat.le_refl _) hlt
      have hrs := HS.out k (by rw [hn.out]; exact hlt)
      rw [hr] at hrn hrs
      clear hr
      obtain ⟨t, p1, p2, zs⟩ := r
      obtain ⟨l, hl⟩ : ∃ l, zs.length = l := ⟨_, rfl⟩
      have hls : l ≤ 1048576 := by have := hrs.2; simp only at this; omega
      have HL := Lib.hid hl
      have hbk := HBS.out k hlt
      obtain ⟨b, hb⟩ : ∃ b, bs k = b := ⟨_, rfl⟩
      rw [hb] at hrn hbk
      have HBK : Hid (∀ j, k < j → j < n → b ≠ bs j) := fun j h1 h2 e => by have := HI.out k j h1 h2; omega
      clear hb hrs
      have hlb := hrn.lt
      go_wp2_with fail
      refine (markText_any wr m hm0 (by omega)).mono ?_
      rintro e w2 ⟨⟨s, rfl⟩, hb2⟩
      have hrn2 := hrn.below hb2
      have hroom2 := hroom.below hb2
      have hnew2 : Hid (∀ j, k < j → j < n → PatNew w2 g (j * 4) (bs j) (T.getD j noQ)) := fun j h1 h2 => (hnew.out j (by omega) h2).below hb2
      have hmid2 := hmid.trans (Mid.of_below hb2)
      clear hrn hroom hnew hmid hb2
      obtain ⟨c0, c1, c2, c3, hO⟩ := hrn2
      simp only at c0 c1 c2 c3 hO
      rw [hl] at c3 hO
      clear hl
      obtain ⟨r1, hr1⟩ : ∃ r, (m + 1) % 3 = r := ⟨_, rfl⟩
      obtain ⟨r2, hr2⟩ : ∃ r, (m + 1 + 1) % 3 = r := ⟨_, rfl⟩
      have t1 : (m + 1).tmod 3 = r1 := by rw [Int.tmod_eq_emod_of_nonneg (by omega), hr1]
      have t2 : (m + 1 + 1).tmod 3 = r2 := by rw [Int.tmod_eq_emod_of_nonneg (by omega), hr2]
      have k1 : IntKind.i64.wrap r1 = r1 := IntWalk.i64_in _ (by omega)
      have k2 : IntKind.i64.wrap r2 = r2 := IntWalk.i64_in _ (by omega)
      obtain ⟨b1, hb1⟩ : ∃ b, (r1 == 0) = b := ⟨_, rfl⟩
      obtain ⟨b2, hb2'⟩ : ∃ b, (r2 == 0) = b := ⟨_, rfl⟩
      have f0 := hroom2.2.1 (k * 4)
      have f1 := hroom2.2.1 (k * 4 + 1)
      have f2 := hroom2.2.1 (k * 4 + 2)
      have hO3a : OwnInts _ (g + 1) (.slice (some ⟨b, 0, none⟩) l l) zs := ownsRow_setCell_below (a := ⟨g, k * 4, none⟩) hO (by simp) (.string s)
      have hO3b : OwnInts _ (g + 1) (.slice (some ⟨b, 0, none⟩) l l) zs := ownsRow_setCell_below (a := ⟨g, k * 4 + 1, none⟩) hO3a (by simp) (.bool b1)
      have hO3 : OwnInts (((w2.setCell ⟨g, k * 4, none⟩ (.string s)).setCell ⟨g, k * 4 + 1, none⟩ (.bool b1)).setCell ⟨g, k * 4 + 2, none⟩ (.bool b2)) (g + 1) (.slice (some ⟨b, 0, none⟩) l l) zs := ownsRow_setCell_below (a := ⟨g, k * 4 + 2, none⟩) hO3b (by simp) (.bool b2)
      have hroom3 := ((hroom2.set (k * 4) (.string s)).set (k * 4 + 1) (.bool b1)).set (k * 4 + 2) (.bool b2)
      have hnew3 : Hid (∀ j, k < j → j < n → PatNew (((w2.setCell ⟨g, k * 4, none⟩ (.string s)).setCell ⟨g, k * 4 + 1, none⟩ (.bool b1)).setCell ⟨g, k * 4 + 2, none⟩ (.bool b2)) g (j * 4) (bs j) (T.getD j noQ)) := fun j h1 h2 => (((hnew2.out j h1 h2).set (by omega) _).set (by omega) _).set (by omega) _
      have hmid3 := ((hmid2.trans (Mid.of_set w2 g (k * 4) (.string s) (Nat.le_refl _) hg)).trans (Mid.of_set _ g (k * 4 + 1) (.bool b1) (Nat.le_refl _) hg)).trans (Mid.of_set _ g (k * 4 + 2) (.bool b2) (Nat.le_refl _) hg)
      have HO3 := keptQ hO3
      have HR3 := keptQ hroom3
      have HM3 := keptQ hmid3
      clear hO hO3a hO3b hO3 hroom2 hroom3 hnew2 hmid2 hmid3
      go_wp2_with fail
      generalize ((w2.setCell ⟨g, k * 4, none⟩ (.string s)).setCell ⟨g, k * 4 + 1, none⟩ (.bool b1)).setCell ⟨g, k * 4 + 2, none⟩ (.bool b2) = W3 at HO3 HR3 hnew3 HM3 ⊢
      refine (markIntS_g W3 (g + 1) b l l zs (m + 1 + 1 + 1) HO3.out HL (by omega) (by omega) (by omega)).mono ?_
      rintro e w4 ⟨rfl, hgr⟩
      have hbg : b ≠ g := by omega
      have HR4 := keptQ (HR3.out.grown hgr hbg)
      have hnew4 : Hid (∀ j, k + 1 ≤ j → j < n → PatNew w4 g (j * 4) (bs j) (T.getD j noQ)) := fun j h1 h2 => (hnew3.out j (by omega) h2).grown hgr hbg (HBK.out j (by omega) h2)
      have HM4 := keptQ (HM3.out.trans (Mid.of_grown hgr (by omega) hbk))
      clear hnew3 hgr c0 c1 c2 c3 f0 f1 f2 hr1 hr2 t1 t2 k1 k2 hb1 hb2'
      go_wp2
      go_roundw
      case rel => exact ⟨k + 1, m + 1 + 1 + 1 + (l : Int), by omega, by go_num, rfl, by omega, by omega, hnew4, HR4.out, HM4.out⟩
      case measure => simp [intOf]; omega
    · go_wp2
      go_ret
      exact ⟨⟨m, rfl, by omega, by omega⟩, hmid⟩
end Go.Proofs.Ytpohkeenfbaklaa
