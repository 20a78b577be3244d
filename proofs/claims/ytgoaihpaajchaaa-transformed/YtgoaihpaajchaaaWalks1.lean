/-
  The functions that only compute: pick, letters, length, reach, right, allRight.
-/
import Derived.Test.YtgoaihpaajchaaaBase
namespace Go.Proofs.Ytgoaihpaajchaaa
open Go.RowKit

def pickI (c n : Int) : Int := (if c < 0 then -(c + 1) else c) % n

theorem pickI_bd (c n : Int) (h : 0 < n) : 0 ≤ pickI c n ∧ pickI c n < n := ⟨Int.emod_nonneg _ (by omega), Int.emod_lt_of_pos _ h⟩

set_option maxHeartbeats 400000 in
theorem pick_any (c n : Int) (w : World) (h1 : -9223372036854775808 ≤ c) (h2 : c ≤ 9223372036854775807) (hn : 0 < n) (hn2 : n ≤ 100000) :
    Calls Try.prog 20 #[.int .i64 c, .int .i64 n] w fun e w' => e = .returned (.int .i64 (pickI c n)) ∧ w' = w := by
  by_cases hc : c < 0
  · go_enter Try.func20, Try.ntmps20
    go_wp2
    go_ret
    refine ⟨ret_int ?_, rfl⟩
    rw [pickI, if_pos hc, ← Int.tmod_eq_emod_of_nonneg (by omega), Int.neg_tmod]
  · go_enter Try.func20, Try.ntmps20
    go_wp2
    go_ret
    exact ⟨ret_int (by rw [pickI, if_neg (by omega)]), rfl⟩

def letter (i : Nat) : List UInt8 := [[97], [98], [195, 169], [228, 184, 150], [240, 159, 144, 154], [99], [10], [32]].getD i [97]

theorem letter_ch (i : Nat) : IsCh (letter i) := by
  match i with
  | 0 => exact isCh1 97 (by decide)
  | 1 => exact isCh1 98 (by decide)
  | 2 => exact isCh2
  | 3 => exact isCh3
  | 4 => exact isCh4
  | 5 => exact isCh1 99 (by decide)
  | 6 => exact isCh1 10 (by decide)
  | 7 => exact isCh1 32 (by decide)
  | n + 8 => exact isCh1 97 (by decide)

theorem letter_le (i : Nat) : (letter i).length ≤ 4 := by
  match i with
  | 0 => decide
  | 1 => decide
  | 2 => decide
  | 3 => decide
  | 4 => decide
  | 5 => decide
  | 6 => decide
  | 7 => decide
  | n + 8 => exact Nat.le_add_left _ _

set_option maxHeartbeats 400000 in
theorem letters_any (w : World) :
    Calls Try.prog 19 #[] w fun e w' => e = .returned (.slice (some ⟨w.heap.size, 0, none⟩) 8 8) ∧ w'.heap.size = w.heap.size + 1 ∧ Below w.heap.size w w' ∧ ∀ i, i < 8 → w'.cell? ⟨w.heap.size, i, none⟩ = some (.string (bs (letter i))) := by
  go_enter Try.func19, Try.ntmps19
  go_wp2
  go_ret
  refine ⟨rfl, by simp, (Below.refl _ _).alloc (Nat.le_refl _) _, ?_⟩
  intro i hi
  match i, hi with
  | 0, _ => simp [letter, bs]
  | 1, _ => simp [letter, bs]
  | 2, _ => simp [letter, bs]
  | 3, _ => simp [letter, bs]
  | 4, _ => simp [letter, bs]
  | 5, _ => simp [letter, bs]
  | 6, _ => simp [letter, bs]
  | 7, _ => simp [letter, bs]

def leads (l : List UInt8) : Nat := (l.filter lead).length
theorem leads_snoc (l : List UInt8) (c : UInt8) : leads (l ++ [c]) = leads l + if lead c then 1 else 0 := by
  unfold leads
  by_cases h : lead c <;> simp [List.filter_append, h]
theorem leads_le (l : List UInt8) : leads l ≤ l.length := List.length_filter_le _ _
theorem leads_chars (cs : List (List UInt8)) (h : ∀ c ∈ cs, IsCh c) : leads cs.flatten = cs.length := by
  induction cs with
  | nil => rfl
  | cons c cs ih =>
    have h1 := (h c (by simp)).2.1
    have h2 := ih (fun d hd => h d (by simp [hd]))
    simp only [leads, List.flatten_cons, List.filter_append, List.length_append, List.length_cons] at *
    omega
theorem take_snoc (s : ByteArray) (k : Nat) (h : k < s.size) : s.data.toList.take (k + 1) = s.data.toList.take k ++ [s[k]] := by
  rw [List.take_succ_eq_append_getElem (by simpa using h)]; rfl
theorem lead_iff (c : UInt8) : lead c = decide ((c.toNat : Int) < 128 ∨ 192 ≤ (c.toNat : Int)) := by
  rw [Bool.eq_iff_iff]; simp [lead, UInt8.lt_iff_toNat_lt, UInt8.le_iff_toNat_le]; omega

set_option maxHeartbeats 400000 in
theorem length_any (s : ByteArray) (w : World) (hs : s.size ≤ 1000000000) :
    Calls Try.prog 10 #[.string s] w fun e w' => e = .returned (.int .i64 (leads s.data.toList)) ∧ w' = w := by
  go_enter Try.func10, Try.ntmps10
  go_wp2
  go_loop [3, 4] (fun n i => ∃ k : Nat, k ≤ s.size ∧ i = .int .i64 k ∧ n = .int .i64 (leads (s.data.toList.take k))) (fun _ i => s.size - (intOf i).toNat)
  case atStart => exact ⟨0, Nat.zero_le _, rfl, rfl⟩
  case round =>
    obtain ⟨k, hk, rfl, rfl⟩ := hrel
    have hd := leads_le (s.data.toList.take k)
    have hl : (s.data.toList.take k).length ≤ k := List.length_take_le _ _
    by_cases hlt : k < s.size
    · have hsn := leads_snoc (s.data.toList.take k) s[k]
      have hts := take_snoc s k hlt
      have hle := lead_iff s[k]
      have HS : Hid (leads (s.data.toList.take (k + 1)) = leads (s.data.toList.take k) + if lead s[k] then 1 else 0) := by rw [hts]; exact hsn
      have HL : Hid (lead s[k] = decide ((s[k].toNat : Int) < 128 ∨ 192 ≤ (s[k].toNat : Int))) := hle
      clear hsn hts hle
      by_cases ha : (s[k].toNat : Int) < 128
      · have hv : lead s[k] = true := by rw [HL.out]; simp; omega
        go_wp2
        all_goals
          go_round
          case rel => exact ⟨k + 1, by omega, by go_num, by rw [HS.out, if_pos hv]; go_num⟩
          case measure => simp [intOf]; omega
      · by_cases hb : 192 ≤ (s[k].toNat : Int)
        · have hv : lead s[k] = true := by rw [HL.out]; simp; omega
          go_wp2
          all_goals
            go_round
            case rel => exact ⟨k + 1, by omega, by go_num, by rw [HS.out, if_pos hv]; go_num⟩
            case measure => simp [intOf]; omega
        · have hv : ¬ lead s[k] = true := by rw [HL.out]; simp; omega
          go_wp2
          all_goals
            go_round
            case rel => exact ⟨k + 1, by omega, by go_num, by rw [HS.out, if_neg hv]; go_num⟩
            case measure => simp [intOf]; omega
    · go_wp2
      go_ret
      exact ⟨ret_int (by rw [List.take_of_length_le (by simp; omega)]), rfl⟩

theorem nums_take_le (L : List Pt) (k : Nat) : nums (L.take k) ≤ nums L := by
  conv => rhs; rw [← List.take_append_drop k L]
  rw [nums_append]; omega
theorem nums_take_succ (L : List Pt) (k : Nat) (h : k < L.length) : nums (L.take (k + 1)) = nums (L.take k) + L[k].num := by
  rw [List.take_succ_eq_append_getElem h, nums_append]; simp [nums]

set_option maxHeartbeats 400000 in
theorem reach_any (v : Value) (L : List Pt) (w : World) (hp : PartsAt w v L) (hL : L.length ≤ 1000) (hb : nums L ≤ 1000000000) :
    Calls Try.prog 31 #[v] w fun e w' => e = .returned (.int .i64 (nums L)) ∧ Below w.heap.size w w' := by
  obtain ⟨ao, cap, rfl, hc⟩ := hp
  go_enter Try.func31, Try.ntmps31
  go_wp2
  go_loopw [3, 8] (fun s i wr => ∃ k : Nat, k ≤ L.length ∧ i = .int .i64 k ∧ s = .int .i64 (nums (L.take k)) ∧ Below w.heap.size w wr) (fun _ i _ => L.length - (intOf i).toNat)
  case atStart => exact ⟨0, Nat.zero_le _, rfl, rfl, Below.refl _ _⟩
  case round =>
    obtain ⟨k, hk, rfl, rfl, hB⟩ := hrel
    by_cases hlt : k < L.length
    · obtain ⟨b, off, rfl, hbl, hcc⟩ := hc (by omega)
      obtain ⟨c0, c1, c2⟩ := hcc k hlt
      rw [← hB.cell (p := ⟨b, _, none⟩) hbl] at c0 c1 c2
      have hn := nums_take_succ L k hlt
      have hn2 := nums_take_le L (k + 1)
      have hz := hB.size
      have HN : Hid (nums (L.take (k + 1)) = nums (L.take k) + L[k].num) := hn
      have hn3 : nums (L.take k) + L[k].num ≤ 1000000000 := by omega
      clear hn hn2
      go_wp2
      go_roundw
      case rel => exact ⟨k + 1, by omega, by go_num, by rw [HN.out]; go_num, hB.alloc (by omega) _⟩
      case measure => simp [intOf]; omega
    · go_wp2
      go_ret
      exact ⟨ret_int (by rw [List.take_of_length_le (by omega)]), hB⟩

def ptV (p : Pt) : Value := .agg #[.int .i64 p.kind, .int .i64 p.num, .string (bs p.text)]

set_option maxHeartbeats 400000 in
theorem right_yes (p : Pt) (w : World) (h : Right p) :
    Calls Try.prog 48 #[ptV p] w fun e w' => e = .returned (.bool true) ∧ Below w.heap.size w w' := by
  unfold ptV
  rcases h with ⟨a, b, c, d⟩ | ⟨a, b, c⟩ | ⟨a, b, c, d⟩
  · rw [a, d]
    go_enter Try.func48, Try.ntmps48
    go_wp2
    go_ret
    exact ⟨ret_bool (by simp [bs]), (Below.refl _ _).alloc (Nat.le_refl _) _⟩
  · rw [a, b]
    go_enter Try.func48, Try.ntmps48
    go_wp2
    go_ret
    exact ⟨ret_bool (by simp [bs, c]), (Below.refl _ _).alloc (Nat.le_refl _) _⟩
  · rw [a, d]
    go_enter Try.func48, Try.ntmps48
    go_wp2
    go_ret
    exact ⟨ret_bool (by simp [bs]), (Below.refl _ _).alloc (Nat.le_refl _) _⟩

set_option maxHeartbeats 400000 in
theorem allRight_yes (v : Value) (L : List Pt) (w : World) (hp : PartsAt w v L) (hL : L.length ≤ 1000) (hr : ∀ p ∈ L, Right p) :
    Calls Try.prog 29 #[v] w fun e w' => e = .returned (.bool true) ∧ Below w.heap.size w w' := by
  obtain ⟨ao, cap, rfl, hc⟩ := hp
  go_enter Try.func29, Try.ntmps29
  go_wp2
  go_loopw [7] (fun i wr => ∃ k : Nat, k ≤ L.length ∧ i = .int .i64 k ∧ Below w.heap.size w wr) (fun i _ => L.length - (intOf i).toNat)
  case atStart => exact ⟨0, Nat.zero_le _, rfl, Below.refl _ _⟩
  case round =>
    obtain ⟨k, hk, rfl, hB⟩ := hrel
    by_cases hlt : k < L.length
    · obtain ⟨b, off, rfl, hbl, hcc⟩ := hc (by omega)
      obtain ⟨c0, c1, c2⟩ := hcc k hlt
      rw [← hB.cell (p := ⟨b, _, none⟩) hbl] at c0 c1 c2
      have hz := hB.size
      have hrr := hr L[k] (List.getElem_mem hlt)
      have HR : Hid (Right L[k]) := hrr
      clear hrr hr
      go_wp2_with (go_at_call 48; refine (right_yes L[k] _ HR.out).mono ?_; rintro e w' ⟨rfl, hb2⟩)
      go_roundw
      case rel => exact ⟨k + 1, by omega, by go_num, (hB.alloc (by omega) _).trans (hb2.mono (by simp; omega))⟩
      case measure => simp [intOf]; omega
    · go_wp2
      go_ret
      exact ⟨rfl, hB⟩

end Go.Proofs.Ytgoaihpaajchaaa
