/-
  Plain: characters by their bytes, as the document's answer reads them, and as the language decodes them.
-/
import Derived.Test.YtpiankiacbghcaaPure
namespace Go.Proofs.Ytpiankiacbghcaa

/-- how many bytes a first byte asks for, and between what the second lies. -/
def lead3 (c : Nat) : Nat × Nat × Nat :=
  if c < 128 then (1, 0, 0) else if 194 ≤ c ∧ c ≤ 223 then (2, 128, 191)
  else if c = 224 then (3, 160, 191) else if c = 237 then (3, 128, 159) else if 225 ≤ c ∧ c ≤ 239 then (3, 128, 191)
  else if c = 240 then (4, 144, 191) else if c = 244 then (4, 128, 143) else if 241 ≤ c ∧ c ≤ 243 then (4, 128, 191) else (0, 0, 0)

/-- the bytes behind the first: the first of them between lo and hi, the others continue. -/
def contB : Nat → Nat → Nat → List UInt8 → Bool
  | 0, _, _, _ => true
  | _ + 1, _, _, [] => false
  | n + 1, lo, hi, x :: r => decide (lo ≤ x.toNat ∧ x.toNat ≤ hi) && contB n 128 191 r

/-- how many bytes the character has that begins here; 0: there is none. -/
def wideL : List UInt8 → Nat
  | [] => 0
  | c :: r => if contB ((lead3 c.toNat).1 - 1) (lead3 c.toNat).2.1 (lead3 c.toNat).2.2 r then (lead3 c.toNat).1 else 0

theorem lead3_le (c : Nat) : (lead3 c).1 ≤ 4 := by
  unfold lead3
  repeat' split
  all_goals simp

theorem contB_take : ∀ (n lo hi : Nat) (l : List UInt8), contB n lo hi l = true → contB n lo hi (l.take n) = true ∧ n ≤ l.length
  | 0, _, _, _, _ => ⟨rfl, Nat.zero_le _⟩
  | n + 1, lo, hi, [], h => by simp [contB] at h
  | n + 1, lo, hi, x :: r, h => by
    simp only [contB, Bool.and_eq_true, decide_eq_true_eq] at h
    obtain ⟨a, b⟩ := contB_take n 128 191 r h.2
    exact ⟨by simp only [List.take_succ_cons, contB, Bool.and_eq_true, decide_eq_true_eq]; exact ⟨h.1, a⟩, by simp; omega⟩

theorem wideL_le (l : List UInt8) : wideL l ≤ l.length := by
  cases l with
  | nil => simp [wideL]
  | cons c r =>
    by_cases h : contB ((lead3 c.toNat).1 - 1) (lead3 c.toNat).2.1 (lead3 c.toNat).2.2 r = true
    · have := (contB_take _ _ _ _ h).2
      rw [wideL, if_pos h]
      simp only [List.length_cons]; omega
    · rw [wideL, if_neg h]; exact Nat.zero_le _

theorem get_drop {s : ByteArray} {pos j : Nat} {l : List UInt8} (h : s.data.toList.drop pos = l) (hj : j < l.length) : s.get! (pos + j) = l[j] ∧ pos + j < s.size := by
  have hlen : s.data.toList.length = s.size := by simp
  have h1 : pos + j < s.size := by rw [← h, List.length_drop, hlen] at hj; omega
  refine ⟨?_, h1⟩
  have h2 : s.get! (pos + j) = s.data.toList[pos + j]'(by rw [hlen]; exact h1) := by
    have : s.get! (pos + j) = s[pos + j] := get_at s (pos + j) h1
    rw [this]; rfl
  rw [h2]
  subst h
  simp

theorem size_drop {s : ByteArray} {pos : Nat} {l : List UInt8} (h : s.data.toList.drop pos = l) (j : Nat) (hj : l.length ≤ j) : ¬ pos + j < s.size ∨ l = [] := by
  have hlen : s.data.toList.length = s.size := by simp
  by_cases hl : l = []
  · exact .inr hl
  · left
    rw [← h, List.length_drop, hlen] at hj
    omega

def decN (x0 x1 x2 x3 : Nat) (c1 c2 c3 : Bool) : Nat × Nat :=
  if x0 < 128 then (x0, 1)
  else if x0 / 32 == 6 && (c1 && x1 / 64 == 2) then
    if (x0 % 32) * 64 + x1 % 64 ≥ 128 then ((x0 % 32) * 64 + x1 % 64, 2) else (65533, 1)
  else if x0 / 16 == 14 && (c1 && x1 / 64 == 2) && (c2 && x2 / 64 == 2) then
    if (x0 % 16) * 4096 + (x1 % 64) * 64 + x2 % 64 ≥ 2048 && Utf8.valid ((x0 % 16) * 4096 + (x1 % 64) * 64 + x2 % 64 : Nat) then ((x0 % 16) * 4096 + (x1 % 64) * 64 + x2 % 64, 3) else (65533, 1)
  else if x0 / 8 == 30 && (c1 && x1 / 64 == 2) && (c2 && x2 / 64 == 2) && (c3 && x3 / 64 == 2) then
    if (x0 % 8) * 262144 + (x1 % 64) * 4096 + (x2 % 64) * 64 + x3 % 64 ≥ 65536 && Utf8.valid ((x0 % 8) * 262144 + (x1 % 64) * 4096 + (x2 % 64) * 64 + x3 % 64 : Nat) then ((x0 % 8) * 262144 + (x1 % 64) * 4096 + (x2 % 64) * 64 + x3 % 64, 4) else (65533, 1)
  else (65533, 1)

theorem decode_decN (s : ByteArray) (pos : Nat) : Utf8.decode s pos = decN (s.get! (pos + 0)).toNat (s.get! (pos + 1)).toNat (s.get! (pos + 2)).toNat (s.get! (pos + 3)).toNat (decide (pos + 1 < s.size)) (decide (pos + 2 < s.size)) (decide (pos + 3 < s.size)) := rfl

def inB (x lo hi : Nat) : Bool := decide (lo ≤ x ∧ x ≤ hi)
def widN (x0 x1 x2 x3 : Nat) (c1 c2 c3 : Bool) : Nat :=
  if x0 < 128 then 1
  else if (lead3 x0).1 = 2 then (if c1 && inB x1 128 191 then 2 else 0)
  else if (lead3 x0).1 = 3 then (if c1 && inB x1 (lead3 x0).2.1 (lead3 x0).2.2 && (c2 && inB x2 128 191) then 3 else 0)
  else if (lead3 x0).1 = 4 then (if c1 && inB x1 (lead3 x0).2.1 (lead3 x0).2.2 && (c2 && inB x2 128 191) && (c3 && inB x3 128 191) then 4 else 0)
  else 0

def Core (d : Nat × Nat) (n x0 x1 x2 : Nat) : Prop := (n = 0 → d = (65533, 1)) ∧ (n ≠ 0 → d.2 = n ∧ (d.1 = 65533 → n = 3 ∧ x0 = 239 ∧ x1 = 191 ∧ x2 = 189))

theorem core (x0 x1 x2 x3 : Nat) (c1 c2 c3 : Bool) (h0 : x0 < 256) (h1 : x1 < 256) (h2 : x2 < 256) (h3 : x3 < 256) : Core (decN x0 x1 x2 x3 c1 c2 c3) (widN x0 x1 x2 x3 c1 c2 c3) x0 x1 x2 := by
  have e1 : inB x1 128 191 = (x1 / 64 == 2) := by rw [Bool.eq_iff_iff]; simp [inB]; omega
  have e2 : inB x2 128 191 = (x2 / 64 == 2) := by rw [Bool.eq_iff_iff]; simp [inB]; omega
  have e3 : inB x3 128 191 = (x3 / 64 == 2) := by rw [Bool.eq_iff_iff]; simp [inB]; omega
  rcases (show x0 < 128 ∨ (128 ≤ x0 ∧ x0 < 194) ∨ (194 ≤ x0 ∧ x0 < 224) ∨ (224 ≤ x0 ∧ x0 < 240) ∨ (240 ≤ x0 ∧ x0 < 245) ∨ 245 ≤ x0 from by omega) with h | h | h | h | h | h
  · simp [decN, widN, Core, h]; omega
  · have l1 : lead3 x0 = (0, 0, 0) := by unfold lead3; rw [if_neg (by omega), if_neg (by omega), if_neg (by omega), if_neg (by omega), if_neg (by omega), if_neg (by omega), if_neg (by omega), if_neg (by omega)]
    have d2 : (x0 / 16 == 14) = false := beq_eq_false_iff_ne.2 (by omega)
    have d3 : (x0 / 8 == 30) = false := beq_eq_false_iff_ne.2 (by omega)
    have d0 : ¬ x0 < 128 := by omega
    have dd : ¬ (x0 % 32 * 64 + x1 % 64 ≥ 128) ∨ ¬ x0 / 32 = 6 := by omega
    simp only [decN, widN, l1, d2, d3, d0, Core, Bool.false_and, if_false]
    refine ⟨fun _ => ?_, fun hh => by simp at hh⟩
    split
    · next hh =>
      simp only [Bool.and_eq_true, beq_iff_eq] at hh
      rw [if_neg (by omega)]
    · rfl
  · have l1 : lead3 x0 = (2, 128, 191) := by unfold lead3; rw [if_neg (by omega), if_pos (by omega)]
    have d1 : (x0 / 32 == 6) = true := beq_iff_eq.2 (by omega)
    have d2 : (x0 / 16 == 14) = false := beq_eq_false_iff_ne.2 (by omega)
    have d3 : (x0 / 8 == 30) = false := beq_eq_false_iff_ne.2 (by omega)
    have d0 : ¬ x0 < 128 := by omega
    have dd : x0 % 32 * 64 + x1 % 64 ≥ 128 := by omega
    have d9 : x0 % 32 * 64 + x1 % 64 ≠ 65533 := by omega
    simp only [decN, widN, l1, d1, d2, d3, d0, e1, dd, Core, Bool.false_and, Bool.true_and, if_false, if_true]
    cases hc : (c1 && x1 / 64 == 2)
    · simp
    · simp [d9]
  · have d1 : (x0 / 32 == 6) = false := beq_eq_false_iff_ne.2 (by omega)
    have d2 : (x0 / 16 == 14) = true := beq_iff_eq.2 (by omega)
    have d3 : (x0 / 8 == 30) = false := beq_eq_false_iff_ne.2 (by omega)
    have d0 : ¬ x0 < 128 := by omega
    have l1 : (lead3 x0).1 = 3 ∧ (lead3 x0).2.1 = (if x0 = 224 then 160 else 128) ∧ (lead3 x0).2.2 = (if x0 = 237 then 159 else 191) := by
      unfold lead3
      rw [if_neg (by omega), if_neg (by omega)]
      by_cases a : x0 = 224
      · simp [a]
      · by_cases b : x0 = 237
        · simp [b]
        · rw [if_neg a, if_neg b, if_pos (by omega), if_neg a, if_neg b]; simp
    obtain ⟨l1, l2, l3⟩ := l1
    obtain ⟨v, hv⟩ : ∃ v, v = (x0 % 16) * 4096 + (x1 % 64) * 64 + x2 % 64 := ⟨_, rfl⟩
    have key : (inB x1 (lead3 x0).2.1 (lead3 x0).2.2 && inB x2 128 191) = ((x1 / 64 == 2 && x2 / 64 == 2) && (decide (v ≥ 2048) && Utf8.valid (v : Int))) := by
      rw [Bool.eq_iff_iff, l2, l3]
      simp only [inB, Utf8.valid, Bool.and_eq_true, Bool.or_eq_true, decide_eq_true_eq, beq_iff_eq]
      split <;> split <;> omega
    have hne : v = 65533 → x1 / 64 = 2 → x2 / 64 = 2 → x0 = 239 ∧ x1 = 191 ∧ x2 = 189 := by omega
    simp only [decN, widN, l1, d1, d2, d3, d0, Core, Bool.false_and, Bool.true_and, if_false, ← hv]
    simp only [show ((3 : Nat) = 2) = False from by simp, if_false, if_true, Bool.false_eq_true]
    cases c1
    · simp
    · cases c2
      · simp
      · simp only [Bool.true_and]
        rw [key]
        cases ha : (x1 / 64 == 2 && x2 / 64 == 2)
        · simp
        · cases hb : (decide (v ≥ 2048) && Utf8.valid (v : Int))
          · simp
          · simp only [Bool.and_eq_true, beq_iff_eq] at ha
            simp
            intro h9
            exact hne h9 ha.1 ha.2
  · have d1 : (x0 / 32 == 6) = false := beq_eq_false_iff_ne.2 (by omega)
    have d2 : (x0 / 16 == 14) = false := beq_eq_false_iff_ne.2 (by omega)
    have d3 : (x0 / 8 == 30) = true := beq_iff_eq.2 (by omega)
    have d0 : ¬ x0 < 128 := by omega
    have l1 : (lead3 x0).1 = 4 ∧ (lead3 x0).2.1 = (if x0 = 240 then 144 else 128) ∧ (lead3 x0).2.2 = (if x0 = 244 then 143 else 191) := by
      unfold lead3
      rw [if_neg (by omega), if_neg (by omega), if_neg (by omega), if_neg (by omega), if_neg (by omega)]
      by_cases a : x0 = 240
      · simp [a]
      · by_cases b : x0 = 244
        · simp [b]
        · rw [if_neg a, if_neg b, if_pos (by omega), if_neg a, if_neg b]; simp
    obtain ⟨l1, l2, l3⟩ := l1
    obtain ⟨v, hv⟩ : ∃ v, v = (x0 % 8) * 262144 + (x1 % 64) * 4096 + (x2 % 64) * 64 + x3 % 64 := ⟨_, rfl⟩
    have key : (inB x1 (lead3 x0).2.1 (lead3 x0).2.2 && inB x2 128 191 && inB x3 128 191) = ((x1 / 64 == 2 && x2 / 64 == 2 && x3 / 64 == 2) && (decide (v ≥ 65536) && Utf8.valid (v : Int))) := by
      rw [Bool.eq_iff_iff, l2, l3]
      simp only [inB, Utf8.valid, Bool.and_eq_true, Bool.or_eq_true, decide_eq_true_eq, beq_iff_eq]
      split <;> split <;> omega
    simp only [decN, widN, l1, d1, d2, d3, d0, Core, Bool.false_and, Bool.true_and, if_false, ← hv]
    simp only [show ((4 : Nat) = 2) = False from by simp, show ((4 : Nat) = 3) = False from by simp, if_false, if_true, Bool.false_eq_true]
    cases c1
    · simp
    · cases c2
      · simp
      · cases c3
        · simp
        · simp only [Bool.true_and]
          rw [key]
          cases ha : (x1 / 64 == 2 && x2 / 64 == 2 && x3 / 64 == 2)
          · simp
          · cases hb : (decide (v ≥ 65536) && Utf8.valid (v : Int))
            · simp
            · simp only [Bool.and_eq_true, decide_eq_true_eq] at hb
              simp
              omega
  · have l1 : lead3 x0 = (0, 0, 0) := by unfold lead3; rw [if_neg (by omega), if_neg (by omega), if_neg (by omega), if_neg (by omega), if_neg (by omega), if_neg (by omega), if_neg (by omega), if_neg (by omega)]
    have d1 : (x0 / 32 == 6) = false := beq_eq_false_iff_ne.2 (by omega)
    have d2 : (x0 / 16 == 14) = false := beq_eq_false_iff_ne.2 (by omega)
    have d0 : ¬ x0 < 128 := by omega
    obtain ⟨v, hv⟩ : ∃ v, v = (x0 % 8) * 262144 + (x1 % 64) * 4096 + (x2 % 64) * 64 + x3 % 64 := ⟨_, rfl⟩
    have key : x0 / 8 = 30 → (decide (v ≥ 65536) && Utf8.valid (v : Int)) = false := by
      intro h8
      have : v ≥ 1114112 := by omega
      rw [Bool.eq_false_iff]
      simp only [Utf8.valid, Bool.and_eq_true, Bool.or_eq_true, decide_eq_true_eq, ne_eq]
      omega
    simp only [decN, widN, l1, d1, d2, d0, Core, Bool.false_and, if_false, ← hv]
    refine ⟨fun _ => ?_, fun hh => by simp at hh⟩
    simp only [Bool.false_eq_true, if_false]
    split
    · next hh =>
      simp only [Bool.and_eq_true, beq_iff_eq] at hh
      rw [key hh.1.1.1]
      simp
    · rfl

theorem wideL_widN (l : List UInt8) (hl : l ≠ []) : wideL l = widN ((l[0]?.getD 0).toNat) ((l[1]?.getD 0).toNat) ((l[2]?.getD 0).toNat) ((l[3]?.getD 0).toNat) (decide (1 < l.length)) (decide (2 < l.length)) (decide (3 < l.length)) := by
  cases l with
  | nil => exact absurd rfl hl
  | cons b0 r =>
    simp only [wideL, widN, List.getElem?_cons_zero, Option.getD_some]
    by_cases h : b0.toNat < 128
    · have l1 : lead3 b0.toNat = (1, 0, 0) := by unfold lead3; rw [if_pos h]
      simp [l1, h, contB]
    · rw [if_neg h]
      have l0 : (lead3 b0.toNat).1 ≠ 1 := by
        unfold lead3
        rw [if_neg h]
        repeat' split
        all_goals simp
      obtain ⟨m, hm⟩ : ∃ m, m = (lead3 b0.toNat).1 := ⟨_, rfl⟩
      have hm4 := lead3_le b0.toNat
      have n5 : (lead3 b0.toNat).1 ≠ 1 := l0
      rw [← hm] at hm4 n5 ⊢
      have hcase : m = 0 ∨ m = 2 ∨ m = 3 ∨ m = 4 := by omega
      rcases hcase with e | e | e | e <;> subst e
      · simp [contB]
      · match r with
        | [] => simp [contB]
        | b1 :: r =>
          have lv : (lead3 b0.toNat).2.1 = 128 ∧ (lead3 b0.toNat).2.2 = 191 := by
            revert hm
            unfold lead3
            rw [if_neg h]
            repeat' split
            all_goals simp
          simp [contB, inB, lv.1, lv.2]
      · match r with
        | [] => simp [contB]
        | [b1] => simp [contB]
        | b1 :: b2 :: r => simp [contB, inB]
      · match r with
        | [] => simp [contB]
        | [b1] => simp [contB]
        | [b1, b2] => simp [contB]
        | b1 :: b2 :: b3 :: r => simp [contB, inB, and_assoc]

theorem get_any {s : ByteArray} {pos : Nat} {l : List UInt8} (h : s.data.toList.drop pos = l) (j : Nat) (hl : l ≠ []) : s.get! (pos + j) = l[j]?.getD 0 ∧ decide (pos + j < s.size) = decide (j < l.length) := by
  by_cases hj : j < l.length
  · obtain ⟨a, b⟩ := get_drop h hj
    rw [a, List.getElem?_eq_getElem hj]
    exact ⟨rfl, by simp [b, hj]⟩
  · have hb : ¬ pos + j < s.size := by
      rcases size_drop h j (by omega) with e | e
      · exact e
      · exact absurd e hl
    refine ⟨?_, by simp [hb, hj]⟩
    rw [List.getElem?_eq_none (by omega)]
    have : ¬ pos + j < s.data.size := hb
    show s.data[pos + j]! = _
    exact getElem!_neg s.data (pos + j) this

theorem decode_wide {s : ByteArray} {pos : Nat} {l : List UInt8} (h : s.data.toList.drop pos = l) (hl : l ≠ []) :
    (wideL l = 0 → Utf8.decode s pos = (65533, 1)) ∧ (wideL l ≠ 0 → (Utf8.decode s pos).2 = wideL l ∧ ((Utf8.decode s pos).1 = 65533 → wideL l = 3 ∧ l.take 3 = [239, 191, 189])) := by
  have h3 : ∀ a : UInt8, a.toNat < 256 := fun a => a.toNat_lt
  have c := core (l[0]?.getD 0).toNat (l[1]?.getD 0).toNat (l[2]?.getD 0).toNat (l[3]?.getD 0).toNat (decide (1 < l.length)) (decide (2 < l.length)) (decide (3 < l.length)) (h3 _) (h3 _) (h3 _) (h3 _)
  rw [← wideL_widN l hl] at c
  rw [decode_decN, (get_any h 0 hl).1, (get_any h 1 hl).1, (get_any h 2 hl).1, (get_any h 3 hl).1, (get_any h 1 hl).2, (get_any h 2 hl).2, (get_any h 3 hl).2]
  refine ⟨c.1, fun hn => ⟨(c.2 hn).1, fun h9 => ?_⟩⟩
  obtain ⟨w3, x0, x1, x2⟩ := (c.2 hn).2 h9
  refine ⟨w3, ?_⟩
  have hle := wideL_le l
  match l, hle with
  | [], hle => simp [w3] at hle
  | [_], hle => simp [w3] at hle
  | [_, _], hle => simp [w3] at hle
  | a :: b :: d :: r, _ =>
    simp only [List.getElem?_cons_zero, List.getElem?_cons_succ, Option.getD_some] at x0 x1 x2
    have e0 : a = 239 := UInt8.toNat_inj.1 x0
    have e1 : b = 191 := UInt8.toNat_inj.1 x1
    have e2 : d = 189 := UInt8.toNat_inj.1 x2
    subst e0 e1 e2
    rfl

/-- bytes that are one character by their own. -/
def IsW (c : List UInt8) : Prop := 1 ≤ c.length ∧ ∀ r, wideL (c ++ r) = c.length

theorem contB_ext : ∀ (n lo hi : Nat) (l r : List UInt8), contB n lo hi l = true → contB n lo hi (l.take n ++ r) = true
  | 0, _, _, _, _, _ => rfl
  | n + 1, lo, hi, [], r, h => by simp [contB] at h
  | n + 1, lo, hi, x :: l, r, h => by
    simp only [contB, Bool.and_eq_true, decide_eq_true_eq] at h
    simp only [List.take_succ_cons, List.cons_append, contB, Bool.and_eq_true, decide_eq_true_eq]
    exact ⟨h.1, contB_ext n 128 191 l r h.2⟩

theorem contB_mem : ∀ (n lo hi : Nat) (l : List UInt8), 128 ≤ lo → hi ≤ 191 → l.length = n → contB n lo hi l = true → l.filter lead = []
  | 0, _, _, l, _, _, hl, _ => by rw [List.length_eq_zero_iff.1 hl]; rfl
  | n + 1, lo, hi, [], _, _, hl, _ => by simp at hl
  | n + 1, lo, hi, x :: l, h1, h2, hl, h => by
    simp only [contB, Bool.and_eq_true, decide_eq_true_eq] at h
    have hx : lead x = false := by
      rw [Bool.eq_false_iff]
      simp only [lead, Bool.or_eq_true, decide_eq_true_eq, ne_eq, UInt8.lt_iff_toNat_lt, UInt8.le_iff_toNat_le]
      show ¬ (x.toNat < 128 ∨ 192 ≤ x.toNat)
      omega
    rw [List.filter_cons, hx]
    exact contB_mem n 128 191 l (by omega) (by omega) (by simpa using hl) h.2

theorem lead3_bd (c : Nat) (h : (lead3 c).1 ≠ 0) : (c < 128 ∧ (lead3 c).1 = 1) ∨ (192 ≤ c ∧ 128 ≤ (lead3 c).2.1 ∧ (lead3 c).2.2 ≤ 191) := by
  by_cases h1 : c < 128
  · exact .inl ⟨h1, by unfold lead3; rw [if_pos h1]⟩
  · right
    revert h
    unfold lead3
    rw [if_neg h1]
    repeat' split
    all_goals simp
    all_goals omega

theorem isW_take (l : List UInt8) (h : wideL l ≠ 0) : IsW (l.take (wideL l)) := by
  cases l with
  | nil => simp [wideL] at h
  | cons c r =>
    by_cases hc : contB ((lead3 c.toNat).1 - 1) (lead3 c.toNat).2.1 (lead3 c.toNat).2.2 r = true
    · have hw : wideL (c :: r) = (lead3 c.toNat).1 := by rw [wideL, if_pos hc]
      rw [hw] at h ⊢
      obtain ⟨n, hn⟩ : ∃ n, (lead3 c.toNat).1 = n + 1 := ⟨(lead3 c.toNat).1 - 1, by omega⟩
      have hlen := (contB_take _ _ _ _ hc).2
      rw [hn] at hc hlen ⊢
      simp only [Nat.add_sub_cancel] at hc hlen
      refine ⟨by simp, fun r' => ?_⟩
      rw [List.take_succ_cons, List.cons_append, wideL, hn]
      simp only [Nat.add_sub_cancel]
      rw [if_pos (contB_ext _ _ _ _ _ hc), List.length_cons, List.length_take]
      omega
    · rw [wideL, if_neg hc] at h
      exact absurd rfl h

theorem IsW.ch {c : List UInt8} (h : IsW c) : IsCh c := by
  obtain ⟨h1, h2⟩ := h
  refine ⟨h1, ?_, fun s pos hp he => ?_⟩
  · have hw := h2 []
    rw [List.append_nil] at hw
    cases c with
    | nil => simp at h1
    | cons a r =>
      by_cases hc : contB ((lead3 a.toNat).1 - 1) (lead3 a.toNat).2.1 (lead3 a.toNat).2.2 r = true
      · rw [wideL, if_pos hc] at hw
        rcases lead3_bd a.toNat (by rw [hw]; simp) with ⟨b1, b2⟩ | ⟨b1, b2, b3⟩
        · have hr : r = [] := by rw [b2] at hw; simpa using hw.symm
          subst hr
          have : lead a = true := by simp [lead, UInt8.lt_iff_toNat_lt, b1]
          simp [this]
        · have hx : lead a = true := by
            simp only [lead, Bool.or_eq_true, decide_eq_true_eq, UInt8.le_iff_toNat_le]
            exact .inr b1
          have hr : r.length = (lead3 a.toNat).1 - 1 := by rw [hw]; simp
          rw [List.filter_cons, hx, if_pos rfl, contB_mem _ _ _ r b2 b3 hr hc]
          rfl
      · rw [wideL, if_neg hc] at hw
        simp at hw
  · have hd : s.data.toList.drop pos = c ++ (s.data.toList.drop pos).drop c.length := by
      conv => lhs; rw [← List.take_append_drop c.length (s.data.toList.drop pos), he]
    obtain ⟨_, b⟩ := decode_wide hd (fun e => by rw [List.append_eq_nil_iff] at e; rw [e.1] at h1; simp at h1)
    rw [h2] at b
    obtain ⟨b1, b2⟩ := b (by omega)
    refine ⟨b1, fun h9 => ?_⟩
    obtain ⟨e1, e2⟩ := b2 h9
    rw [← e1, List.take_left] at e2
    exact e2

/-- A TEXT READ: its characters, and what is left where none begins. -/
structure Parse (l : List UInt8) (cs : List (List UInt8)) (rest : List UInt8) : Prop where
  eq : l = cs.flatten ++ rest
  chars : ∀ c ∈ cs, IsW c
  stop : rest = [] ∨ wideL rest = 0

theorem parse_from : ∀ (n : Nat) (l : List UInt8), l.length ≤ n → ∃ cs rest, Parse l cs rest
  | 0, l, h => ⟨[], l, rfl, by simp, .inl (List.length_eq_zero_iff.1 (by omega))⟩
  | n + 1, l, h => by
    by_cases hw : wideL l = 0
    · exact ⟨[], l, rfl, by simp, .inr hw⟩
    · have hle := wideL_le l
      obtain ⟨cs, rest, hp⟩ := parse_from n (l.drop (wideL l)) (by rw [List.length_drop]; omega)
      refine ⟨l.take (wideL l) :: cs, rest, ?_, ?_, hp.stop⟩
      · rw [List.flatten_cons, List.append_assoc, ← hp.eq, List.take_append_drop]
      · intro c hc
        rcases List.mem_cons.1 hc with e | e
        · rw [e]; exact isW_take l hw
        · exact hp.chars c e

theorem parse_exists (l : List UInt8) : ∃ cs rest, Parse l cs rest := parse_from l.length l (Nat.le_refl _)

def restF : Nat → List UInt8 → List UInt8
  | 0, l => l
  | n + 1, l => if wideL l = 0 then l else restF n (l.drop (wideL l))
def charsF : Nat → List UInt8 → List (List UInt8)
  | 0, _ => []
  | n + 1, l => if wideL l = 0 then [] else l.take (wideL l) :: charsF n (l.drop (wideL l))

theorem parseF : ∀ (n : Nat) (l : List UInt8), l.length ≤ n → Parse l (charsF n l) (restF n l)
  | 0, l, h => ⟨by simp [charsF, restF], by simp [charsF], .inl (by simp [restF]; exact List.length_eq_zero_iff.1 (by omega))⟩
  | n + 1, l, h => by
    by_cases hw : wideL l = 0
    · rw [charsF, restF, if_pos hw, if_pos hw]
      exact ⟨rfl, by simp, .inr hw⟩
    · have hle := wideL_le l
      have hp := parseF n (l.drop (wideL l)) (by rw [List.length_drop]; omega)
      rw [charsF, restF, if_neg hw, if_neg hw]
      refine ⟨?_, ?_, hp.stop⟩
      · rw [List.flatten_cons, List.append_assoc, ← hp.eq, List.take_append_drop]
      · intro c hc
        rcases List.mem_cons.1 hc with e | e
        · rw [e]; exact isW_take l hw
        · exact hp.chars c e

/-- a text's characters; whether it is all characters. -/
def charsL (l : List UInt8) : List (List UInt8) := charsF l.length l
def restL (l : List UInt8) : List UInt8 := restF l.length l
def isText (l : List UInt8) : Bool := (restL l).isEmpty
theorem parseL (l : List UInt8) : Parse l (charsL l) (restL l) := parseF l.length l (Nat.le_refl _)
theorem text_eq {l : List UInt8} (h : isText l = true) : l = (charsL l).flatten := by
  have := (parseL l).eq
  have h2 : restL l = [] := by simpa [isText] using h
  rw [h2, List.append_nil] at this
  exact this
theorem text_chars (l : List UInt8) : ∀ c ∈ charsL l, IsCh c := fun c hc => ((parseL l).chars c hc).ch
theorem text_valid {l : List UInt8} (h : isText l = true) : ValidT l := ⟨charsL l, text_chars l, text_eq h⟩
theorem text_rest {l : List UInt8} (h : isText l = false) : restL l ≠ [] := by
  intro e; simp [isText, e] at h

end Go.Proofs.Ytpiankiacbghcaa
