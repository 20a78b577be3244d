/-
  Plain: what a character is, and a text as a list of characters.
-/
import Derived.Laws.Runes
import Derived.Laws.RangeAny
namespace Go.Proofs.Ytgoaihpaajchaaa

/-- bytes that are one character, wherever they stand. -/
def lead (b : UInt8) : Bool := b < 128 || 192 ≤ b
def IsCh (c : List UInt8) : Prop :=
  1 ≤ c.length ∧ (c.filter lead).length = 1 ∧ ∀ (s : ByteArray) (pos : Nat), pos + c.length ≤ s.size → (s.data.toList.drop pos).take c.length = c →
    (Utf8.decode s pos).2 = c.length ∧ ((Utf8.decode s pos).1 = 65533 → c = [239, 191, 189])

theorem get_of_take {s : ByteArray} {pos : Nat} {c : List UInt8} (h : pos + c.length ≤ s.size) (e : (s.data.toList.drop pos).take c.length = c) (j : Nat) (hj : j < c.length) :
    s.get! (pos + j) = c[j] := by
  have hlt : pos + j < s.size := by omega
  have h1 : s.get! (pos + j) = s.data.toList[pos + j]'(by simpa using hlt) := by
    have : s.get! (pos + j) = s[pos + j] := get_at s (pos + j) hlt
    rw [this]; rfl
  rw [h1]
  have h2 : ((s.data.toList.drop pos).take c.length)[j]? = c[j]? := by rw [e]
  rw [List.getElem?_take_of_lt hj, List.getElem?_drop, List.getElem?_eq_getElem (by simpa using hlt), List.getElem?_eq_getElem hj] at h2
  exact Option.some.inj h2

theorem isCh1 (a : UInt8) (ha : a.toNat < 128) : IsCh [a] := by
  refine ⟨by simp, by simp [lead, UInt8.lt_iff_toNat_lt, ha], fun s pos h e => ?_⟩
  have g0 := get_of_take h e 0 (by simp)
  simp only [List.getElem_cons_zero, Nat.add_zero] at g0
  simp only [Utf8.decode, Nat.add_zero, g0, ha, if_true, List.length_cons, List.length_nil]
  exact ⟨trivial, fun h => by omega⟩

theorem isCh2 : IsCh [195, 169] := by
  refine ⟨by simp, by decide, fun s pos h e => ?_⟩
  have g0 := get_of_take h e 0 (by simp)
  have g1 := get_of_take h e 1 (by simp)
  have hl : pos + 1 < s.size := by simp at h; omega
  simp only [List.getElem_cons_zero, List.getElem_cons_succ, Nat.add_zero] at g0 g1
  simp [Utf8.decode, g0, g1, hl]

theorem isCh3 : IsCh [228, 184, 150] := by
  refine ⟨by simp, by decide, fun s pos h e => ?_⟩
  have g0 := get_of_take h e 0 (by simp)
  have g1 := get_of_take h e 1 (by simp)
  have g2 := get_of_take h e 2 (by simp)
  have hl : pos + 1 < s.size := by simp at h; omega
  have hl2 : pos + 2 < s.size := by simp at h; omega
  simp only [List.getElem_cons_zero, List.getElem_cons_succ, Nat.add_zero] at g0 g1 g2
  simp [Utf8.decode, g0, g1, g2, hl, hl2, Utf8.valid]

theorem isCh4 : IsCh [240, 159, 144, 154] := by
  refine ⟨by simp, by decide, fun s pos h e => ?_⟩
  have g0 := get_of_take h e 0 (by simp)
  have g1 := get_of_take h e 1 (by simp)
  have g2 := get_of_take h e 2 (by simp)
  have g3 := get_of_take h e 3 (by simp)
  have hl : pos + 1 < s.size := by simp at h; omega
  have hl2 : pos + 2 < s.size := by simp at h; omega
  have hl3 : pos + 3 < s.size := by simp at h; omega
  simp only [List.getElem_cons_zero, List.getElem_cons_succ, Nat.add_zero] at g0 g1 g2 g3
  simp [Utf8.decode, g0, g1, g2, g3, hl, hl2, hl3, Utf8.valid]

/-- where the k-th character begins. -/
def begins (cs : List (List UInt8)) (k : Nat) : Nat := (cs.take k).flatten.length

theorem begins_zero (cs : List (List UInt8)) : begins cs 0 = 0 := by simp [begins]
theorem begins_succ (cs : List (List UInt8)) (k : Nat) (h : k < cs.length) : begins cs (k + 1) = begins cs k + cs[k].length := by
  unfold begins
  rw [List.take_succ_eq_append_getElem h, List.flatten_append, List.length_append]
  simp only [List.flatten_cons, List.flatten_nil, List.append_nil]
theorem begins_all (cs : List (List UInt8)) : begins cs cs.length = cs.flatten.length := by simp [begins]
theorem flatten_split (cs : List (List UInt8)) (k : Nat) : cs.flatten = (cs.take k).flatten ++ (cs.drop k).flatten := by
  rw [← List.flatten_append, List.take_append_drop]
theorem begins_le (cs : List (List UInt8)) (k : Nat) : begins cs k ≤ cs.flatten.length := by
  rw [flatten_split cs k]; simp [begins]
theorem take_begins (cs : List (List UInt8)) (k : Nat) : cs.flatten.take (begins cs k) = (cs.take k).flatten := by
  conv => lhs; rw [flatten_split cs k]
  rw [begins, List.take_left]
theorem drop_begins (cs : List (List UInt8)) (k : Nat) : cs.flatten.drop (begins cs k) = (cs.drop k).flatten := by
  conv => lhs; rw [flatten_split cs k]
  rw [begins, List.drop_left]

/-- A text of characters, decoded at its k-th one. -/
theorem decode_at {s : ByteArray} {cs : List (List UInt8)} (hs : s.data.toList = cs.flatten) (hc : ∀ c ∈ cs, IsCh c) (k : Nat) (h : k < cs.length) :
    begins cs k < s.size ∧ (Utf8.decode s (begins cs k)).2 = cs[k].length ∧ ((Utf8.decode s (begins cs k)).1 = 65533 → cs[k] = [239, 191, 189]) := by
  have hz : s.size = cs.flatten.length := by rw [← hs]; simp
  have hch := hc cs[k] (List.getElem_mem h)
  have hb := begins_succ cs k h
  have hle := begins_le cs (k + 1)
  have hd : cs.drop k = cs[k] :: cs.drop (k + 1) := List.drop_eq_getElem_cons h
  refine ⟨by have := hch.1; omega, ?_⟩
  refine hch.2.2 s (begins cs k) (by omega) ?_
  rw [hs, drop_begins, hd, List.flatten_cons, List.take_left]

end Go.Proofs.Ytgoaihpaajchaaa
