/-
  chars.Count, chars.Cut, ops.allCharacters, ops.errorOf, and what the laws ask of lists of parts.
-/
import Derived.Test.YtgoaihpaajchaaaWalks1
import Derived.Lib.Strings
import Derived.WalkSmall
namespace Go.Proofs.Ytgoaihpaajchaaa
open Go.RowKit

def hasPre (s p : ByteArray) : Bool := decide (p.size ≤ s.size) && ((s.extract 0 p.size).toList == p.toList)

set_option maxHeartbeats 400000 in
theorem hasPrefix_any (s p : ByteArray) (w : World) (_hs : s.size ≤ 9223372036854775807) (_hp : p.size ≤ 9223372036854775807) :
    Calls Try.prog 51 #[.string s, .string p] w fun e w' => e = .returned (.bool (hasPre s p)) ∧ w' = w := by
  by_cases h : p.size ≤ s.size
  · go_enter Try.func51, Try.ntmps51
    go_wp2
    go_ret
    exact ⟨ret_bool (by simp [hasPre, h]), rfl⟩
  · go_enter Try.func51, Try.ntmps51
    go_wp2
    go_ret
    exact ⟨ret_bool (by simp [hasPre, h]), rfl⟩

theorem hasPre_of (s : ByteArray) (pos : Nat) (h : pos + 3 ≤ s.size) (e : (s.data.toList.drop pos).take 3 = [239, 191, 189]) : hasPre (s.extract pos s.size) { data := #[239, 191, 189] } = true := by
  have h3 : ({ data := #[239, 191, 189] } : ByteArray).size = 3 := rfl
  have hl : ∀ t : ByteArray, t.toList = t.data.toList := fun t => Lib.toList_data t
  unfold hasPre
  rw [h3, Bool.and_eq_true]
  refine ⟨by simp; omega, ?_⟩
  rw [hl, hl, beq_iff_eq]
  simp only [ByteArray.data_extract, Array.toList_extract, List.extract_eq_take_drop, List.drop_zero, Nat.sub_zero]
  rw [List.take_take, Nat.min_eq_left (by omega)]
  exact e

set_option maxHeartbeats 400000 in
theorem count_ok (s : ByteArray) (cs : List (List UInt8)) (w : World) (hs : s.size ≤ 9223372036854775806) (hcs : s.data.toList = cs.flatten) (hch : ∀ c ∈ cs, IsCh c) (hcl : cs.length ≤ 9223372036854775806) :
    Calls Try.prog 39 #[.string s] w fun e w' => e = .returned (.tuple #[.int .i64 cs.length, .bool true]) ∧ Below w.heap.size w w' := by
  have HC : Hid (s.data.toList = cs.flatten) := hcs
  clear hcs
  go_enter Try.func39, Try.ntmps39
  go_wp2
  go_loopw [4] (fun n wr => ∃ k : Nat, k ≤ cs.length ∧ n = .int .i64 k ∧ wr = w.iter s (begins cs k)) (fun n _ => cs.length - (intOf n).toNat)
  case atStart => exact ⟨0, Nat.zero_le _, rfl, by rw [begins_zero]⟩
  case round =>
    obtain ⟨k, hk, rfl, rfl⟩ := hrel
    by_cases hlt : k < cs.length
    · obtain ⟨hp, hw2, hbad⟩ := decode_at HC.out hch k hlt
      have hnx : ∀ ty, (Instr.next (.pointer (some ⟨w.heap.size, 0, none⟩)) true ty).run Try.prog (w.iter s (begins cs k)) = _ := fun ty => run_next_any w s (begins cs k) ty hp
      have HB : Hid ((Utf8.decode s (begins cs k)).2 = cs[k].length ∧ ((Utf8.decode s (begins cs k)).1 = 65533 → cs[k] = [239, 191, 189])) := ⟨hw2, hbad⟩
      clear hw2 hbad
      by_cases hr : (Utf8.decode s (begins cs k)).1 = 65533
      · have hpre : hasPre (s.extract (begins cs k) s.size) { data := #[239, 191, 189] } = true := by
          have e := HB.out.2 hr
          have hz : s.size = cs.flatten.length := by rw [← HC.out]; simp
          have hb := begins_succ cs k hlt
          have hle := begins_le cs (k + 1)
          rw [e] at hb
          simp only [List.length_cons, List.length_nil] at hb
          refine hasPre_of s _ (by omega) ?_
          rw [HC.out, drop_begins, List.drop_eq_getElem_cons hlt, List.flatten_cons, e]
          rfl
        go_wp2_with (go_at_call 51; refine (hasPrefix_any _ _ _ (by simp; omega) (by decide)).mono ?_; rintro e w' ⟨rfl, rfl⟩)
        go_roundw
        case rel => exact ⟨k + 1, by omega, by go_num, by rw [begins_succ cs k hlt, HB.out.1]⟩
        case measure => simp [intOf]; omega
      · go_wp2
        go_roundw
        case rel => exact ⟨k + 1, by omega, by go_num, by rw [begins_succ cs k hlt, HB.out.1]⟩
        case measure => simp [intOf]; omega
    · have hkk : k = cs.length := by omega
      subst hkk
      have hp : ¬ begins cs cs.length < s.size := by
        have hz : s.size = cs.flatten.length := by rw [← HC.out]; simp
        rw [begins_all]; omega
      have hnx : ∀ ty, (Instr.next (.pointer (some ⟨w.heap.size, 0, none⟩)) true ty).run Try.prog (w.iter s (begins cs cs.length)) = _ := fun ty => run_next_end w s (begins cs cs.length) ty hp
      go_wp2
      go_ret2
      exact ⟨rfl, (Below.refl _ _).alloc (Nat.le_refl _) _⟩

/-- a text cut where a character begins. -/
theorem extract_take {s : ByteArray} {cs : List (List UInt8)} (h : s.data.toList = cs.flatten) (k : Nat) : s.extract 0 (begins cs k) = bs (cs.take k).flatten := by
  refine bs_of ?_
  simp only [ByteArray.data_extract, Array.toList_extract, List.extract_eq_take_drop, List.drop_zero, Nat.sub_zero]
  rw [h, take_begins]
theorem extract_drop {s : ByteArray} {cs : List (List UInt8)} (h : s.data.toList = cs.flatten) (k : Nat) : s.extract (begins cs k) s.size = bs (cs.drop k).flatten := by
  refine bs_of ?_
  simp only [ByteArray.data_extract, Array.toList_extract, List.extract_eq_take_drop]
  have hz : s.size = cs.flatten.length := by rw [← h]; simp
  rw [h, drop_begins, List.take_of_length_le]
  rw [← drop_begins, List.length_drop, hz]
  exact Nat.le_refl _

set_option maxHeartbeats 400000 in
theorem cut_ok (s : ByteArray) (cs : List (List UInt8)) (n : Int) (w : World) (_hs : s.size ≤ 9223372036854775806) (hcs : s.data.toList = cs.flatten) (hch : ∀ c ∈ cs, IsCh c) (hcl : cs.length ≤ 9223372036854775806) (hn0 : 0 ≤ n) (hn : n ≤ 9223372036854775806) :
    Calls Try.prog 40 #[.string s, .int .i64 n] w fun e w' => e = .returned (.tuple #[.string (bs (cs.take n.toNat).flatten), .string (bs (cs.drop n.toNat).flatten)]) ∧ Below w.heap.size w w' := by
  have HC : Hid (s.data.toList = cs.flatten) := hcs
  clear hcs
  obtain ⟨m, rfl⟩ := Int.eq_ofNat_of_zero_le hn0
  go_enter Try.func40, Try.ntmps40
  go_wp2
  go_loopw [1] (fun n wr => ∃ k : Nat, k ≤ cs.length ∧ k ≤ m ∧ n = .int .i64 (m - k) ∧ wr = w.iter s (begins cs k)) (fun n _ => (intOf n).toNat)
  case atStart => exact ⟨0, Nat.zero_le _, Nat.zero_le _, by simp, by rw [begins_zero]⟩
  case round =>
    obtain ⟨k, hk, hkm, rfl, rfl⟩ := hrel
    by_cases hlt : k < cs.length
    · obtain ⟨hp, hw2, hbad⟩ := decode_at HC.out hch k hlt
      have hnx : ∀ ty, (Instr.next (.pointer (some ⟨w.heap.size, 0, none⟩)) true ty).run Try.prog (w.iter s (begins cs k)) = _ := fun ty => run_next_any w s (begins cs k) ty hp
      have HB : Hid ((Utf8.decode s (begins cs k)).2 = cs[k].length) := hw2
      clear hw2 hbad
      by_cases hr : k < m
      · have h0 : ¬ ((m : Int) - k ≤ 0) := by omega
        go_wp2
        go_roundw
        case rel => exact ⟨k + 1, by omega, by omega, by go_num, by rw [begins_succ cs k hlt, HB.out]⟩
        case measure => simp [intOf]; omega
      · have h0 : ((m : Int) - k ≤ 0) := by omega
        go_wp2
        go_quiet (fail)
        go_wp2
        have hkm' : k = m := by omega
        subst hkm'
        rw [extract_take HC.out, extract_drop HC.out]
        go_ret2
        exact ⟨rfl, below_drewN ((Below.refl _ _).alloc (Nat.le_refl _) _) _⟩
    · have hkk : k = cs.length := by omega
      subst hkk
      have hp : ¬ begins cs cs.length < s.size := by
        have hz : s.size = cs.flatten.length := by rw [← HC.out]; simp
        rw [begins_all]; omega
      have hnx : ∀ ty, (Instr.next (.pointer (some ⟨w.heap.size, 0, none⟩)) true ty).run Try.prog (w.iter s (begins cs cs.length)) = _ := fun ty => run_next_end w s (begins cs cs.length) ty hp
      go_wp2
      have e1 : s = bs (cs.take m).flatten := bs_of (by rw [List.take_of_length_le hkm]; exact HC.out)
      have e2 : (cs.drop m).flatten = [] := by rw [List.drop_eq_nil_of_le hkm]; rfl
      go_ret2
      refine ⟨?_, (Below.refl _ _).alloc (Nat.le_refl _) _⟩
      rw [Int.toNat_natCast, e2, ← e1]
      rfl
set_option maxHeartbeats 400000 in
theorem allChars_yes (v : Value) (L : List Pt) (w : World) (hp : PartsAt w v L) (hL : L.length ≤ 1000) (hr : ∀ p ∈ L, ValidT p.text ∧ p.text.length ≤ 1000000000) :
    Calls Try.prog 30 #[v] w fun e w' => e = .returned (.bool true) ∧ Below w.heap.size w w' := by
  obtain ⟨ao, cap, rfl, hc⟩ := hp
  go_enter Try.func30, Try.ntmps30
  go_wp2
  go_loopw [9] (fun i wr => ∃ k : Nat, k ≤ L.length ∧ i = .int .i64 k ∧ Below w.heap.size w wr) (fun i _ => L.length - (intOf i).toNat)
  case atStart => exact ⟨0, Nat.zero_le _, rfl, Below.refl _ _⟩
  case round =>
    obtain ⟨k, hk, rfl, hB⟩ := hrel
    by_cases hlt : k < L.length
    · obtain ⟨b, off, rfl, hbl, hcc⟩ := hc (by omega)
      obtain ⟨c0, c1, c2⟩ := hcc k hlt
      rw [← hB.cell (p := ⟨b, _, none⟩) hbl] at c0 c1 c2
      have hz := hB.size
      have HR : Hid (ValidT L[k].text ∧ L[k].text.length ≤ 1000000000) := hr L[k] (List.getElem_mem hlt)
      clear hr
      obtain ⟨cs, hch, hcs⟩ := HR.out.1
      have hl := HR.out.2
      have hl2 : cs.length ≤ 1000000000 := by
        have := leads_chars cs hch
        have := leads_le cs.flatten
        rw [hcs] at hl; omega
      have HC : Hid (L[k].text = cs.flatten ∧ ∀ c ∈ cs, IsCh c) := ⟨hcs, hch⟩
      clear hcs hch
      go_wp2_with (go_at_call 39; refine (count_ok (bs L[k].text) cs _ (by rw [bs_size]; omega) (by rw [bs_data]; exact HC.out.1) HC.out.2 (by omega)).mono ?_; rintro e w' ⟨rfl, hb2⟩)
      go_roundw
      case rel => exact ⟨k + 1, by omega, by go_num, (hB.alloc (by omega) _).trans (hb2.mono (by simp; omega))⟩
      case measure => simp [intOf]; omega
    · go_wp2
      go_ret
      exact ⟨rfl, hB⟩

structure OkOp (L : List Pt) (n : Nat) : Prop where
  len : L.length ≤ 40
  right : ∀ p ∈ L, Right p
  texts : ∀ p ∈ L, ValidT p.text ∧ p.text.length ≤ 1000000000
  fits : nums L ≤ n
  small : n ≤ 1000000

set_option maxHeartbeats 400000 in
theorem errorOf_ok (v : Value) (L : List Pt) (n : Nat) (w : World) (hp : PartsAt w v L) (hok : OkOp L n) :
    Calls Try.prog 21 #[v, .int .i64 n] w fun e w' => e = .returned (.int .i64 0) ∧ Below w.heap.size w w' := by
  obtain ⟨hlen, hright, htexts, hfits, hsmall⟩ := hok
  have HR : Hid ((∀ p ∈ L, Right p) ∧ (∀ p ∈ L, ValidT p.text ∧ p.text.length ≤ 1000000000)) := ⟨hright, htexts⟩
  have HP : Hid (PartsAt w v L) := hp
  obtain ⟨ao, cap, rfl, hc⟩ := hp
  clear hright htexts hc
  go_enter Try.func21, Try.ntmps21
  go_wp2_with fail
  refine (allRight_yes _ L _ HP.out (by omega) HR.out.1).mono ?_
  rintro e w1 ⟨rfl, hb1⟩
  go_wp2_with fail
  have HP1 : Hid (PartsAt w1 (.slice ao L.length cap) L) := HP.out.below hb1 (Nat.le_refl _)
  refine (allChars_yes _ L _ HP1.out (by omega) HR.out.2).mono ?_
  rintro e w2 ⟨rfl, hb2⟩
  go_wp2_with fail
  have HP2 : Hid (PartsAt w2 (.slice ao L.length cap) L) := HP1.out.below hb2 (Nat.le_refl _)
  refine (reach_any _ L _ HP2.out (by omega) (by omega)).mono ?_
  rintro e w3 ⟨rfl, hb3⟩
  go_wp2
  go_ret
  exact ⟨rfl, (hb1.trans (hb2.mono hb1.size)).trans (hb3.mono (Nat.le_trans hb1.size hb2.size))⟩

end Go.Proofs.Ytgoaihpaajchaaa
