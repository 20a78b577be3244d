/-
  The texts and operations that the laws of quillkeep make out of numbers: text, made.
-/
import Derived.Test.YtgoaihpaajchaaaWalks3
namespace Go.Proofs.Ytgoaihpaajchaaa
open Go.RowKit

theorem bs_append (a b : List UInt8) : bs a ++ bs b = bs (a ++ b) := bs_of (by rw [ByteArray.data_append, Array.toList_append, bs_data, bs_data])

/-- the cells of parts, one behind the other. -/
def ptCells (p : Pt) : List Value := [.int .i64 p.kind, .int .i64 p.num, .string (bs p.text)]
def rowOf (L : List Pt) : List Value := L.flatMap ptCells
theorem rowOf_snoc (L : List Pt) (p : Pt) : rowOf (L ++ [p]) = rowOf L ++ ptCells p := by simp [rowOf]
theorem rowOf_length (L : List Pt) : (rowOf L).length = L.length * 3 := by
  induction L with
  | nil => rfl
  | cons p L ih => simp only [rowOf, List.flatMap_cons, List.length_append, List.length_cons] at *; simp only [ptCells, List.length_cons, List.length_nil]; omega
theorem rowOf_at (L : List Pt) : ∀ (k : Nat) (h : k < L.length) (j : Nat), j < 3 → (rowOf L)[k * 3 + j]? = (ptCells L[k])[j]? := by
  induction L with
  | nil => intro k h; simp at h
  | cons p L ih =>
    intro k h j hj
    have hl : (ptCells p).length = 3 := rfl
    cases k with
    | zero => simp only [rowOf, List.flatMap_cons, Nat.zero_mul, Nat.zero_add, List.getElem_cons_zero]; rw [List.getElem?_append_left (by omega)]
    | succ k =>
      have := ih k (by simpa using h) j hj
      simp only [rowOf, List.flatMap_cons, List.getElem_cons_succ] at *
      rw [List.getElem?_append_right (by omega), ← this, hl]
      congr 1
      omega

theorem parts_of_row {w : World} {base : Nat} {e : TypeId} {v : Value} {L : List Pt} (h : w.ownsRow base e 3 v L.length (rowOf L)) : PartsAt w v L := by
  rcases h.2 with ⟨rfl, h0⟩ | ⟨g, cap, cur, rfl, hb, hg, hle, _, _, _⟩
  · exact ⟨none, 0, by rw [h0], fun h => by omega⟩
  · refine ⟨some ⟨g, 0, none⟩, cap, rfl, fun _ => ⟨g, 0, rfl, (Array.getElem?_eq_some_iff.1 hg).1, fun k hk => ?_⟩⟩
    have hc := h.cells (g := g) rfl
    have hadd : ∀ j, (⟨g, 0, none⟩ : Addr).add j = ⟨g, j, none⟩ := fun j => by unfold Addr.add; split <;> simp_all
    refine ⟨?_, ?_, ?_⟩
    · have := hc (k * 3 + 0) _ ((rowOf_at L k hk 0 (by omega)).trans rfl)
      rw [hadd] at this
      simpa using this
    · have := hc (k * 3 + 1) _ ((rowOf_at L k hk 1 (by omega)).trans rfl)
      rw [hadd] at this
      simpa using this
    · have := hc (k * 3 + 2) _ ((rowOf_at L k hk 2 (by omega)).trans rfl)
      rw [hadd] at this
      simpa using this

def IntsAt (w : World) (v : Value) (n : Nat) (z : Nat → Int) : Prop :=
  ∃ ao cap, v = .slice ao n cap ∧ n ≤ 9223372036854775807 ∧ (0 < n → ∃ b off, ao = some ⟨b, off, none⟩ ∧ b < w.heap.size ∧ ∀ k, k < n → w.cell? ⟨b, off + k, none⟩ = some (.int .i64 (z k)) ∧ -9223372036854775808 ≤ z k ∧ z k ≤ 9223372036854775807)

theorem IntsAt.below {w w' : World} {v : Value} {n : Nat} {z : Nat → Int} (h : IntsAt w v n z) {B : Nat} (hb : Below B w w') (hB : w.heap.size ≤ B) : IntsAt w' v n z := by
  obtain ⟨ao, cap, rfl, hn, hc⟩ := h
  refine ⟨ao, cap, rfl, hn, fun hl => ?_⟩
  obtain ⟨b, off, e, hlt, hp⟩ := hc hl
  refine ⟨b, off, e, Nat.lt_of_lt_of_le hlt hb.size, fun k hk => ?_⟩
  have hlt' : b < B := by omega
  exact ⟨(hb.cell (p := ⟨b, _, none⟩) hlt').trans (hp k hk).1, (hp k hk).2⟩

set_option maxHeartbeats 400000 in
theorem text_any (v : Value) (n most : Nat) (z : Nat → Int) (w : World) (hv : IntsAt w v n z) (hm : most ≤ 1000) :
    Calls Try.prog 8 #[v, .int .i64 most] w fun e w' => ∃ cs : List (List UInt8), e = .returned (.string (bs cs.flatten)) ∧ (∀ c ∈ cs, IsCh c) ∧ cs.length ≤ most ∧ cs.flatten.length ≤ 4 * most ∧ Below w.heap.size w w' := by
  obtain ⟨ao, cap, rfl, hn, hc⟩ := hv
  go_enter Try.func8, Try.ntmps8
  go_wp2_with fail
  refine (letters_any _).mono ?_
  rintro e w1 ⟨rfl, hs1, hb1, hl1⟩
  go_wp2
  go_loop [6, 7] (fun s i => ∃ (k : Nat) (cs : List (List UInt8)), k ≤ n ∧ k ≤ most ∧ i = .int .i64 k ∧ s = .string (bs cs.flatten) ∧ (∀ c ∈ cs, IsCh c) ∧ cs.length = k ∧ cs.flatten.length ≤ 4 * k) (fun _ i => n - (intOf i).toNat)
  case atStart => exact ⟨0, [], Nat.zero_le _, Nat.zero_le _, rfl, rfl, by simp, rfl, by simp⟩
  case round =>
    obtain ⟨k, cs, hk, hkm, rfl, rfl, hch, hcl, hfl⟩ := hrel
    have HC : Hid ((∀ c ∈ cs, IsCh c) ∧ cs.length = k ∧ cs.flatten.length ≤ 4 * k) := ⟨hch, hcl, hfl⟩
    clear hch hcl
    by_cases hlt : k < n ∧ k < most
    · obtain ⟨h1, h2⟩ := hlt
      obtain ⟨b, off, rfl, hbl, hcc⟩ := hc (by omega)
      obtain ⟨c0, z1, z2⟩ := hcc k h1
      rw [← hb1.cell (p := ⟨b, _, none⟩) hbl] at c0
      go_wp2_with fail
      refine (pick_any _ _ _ z1 z2 (by omega) (by omega)).mono ?_
      rintro e w2 ⟨rfl, rfl⟩
      have hp := pickI_bd (z k) 8 (by omega)
      obtain ⟨p, hpe⟩ := Int.eq_ofNat_of_zero_le hp.1
      rw [hpe] at hp ⊢
      have hl := hl1 p (by omega)
      have g1 : (bs cs.flatten).size ≤ 4000 := by rw [bs_size]; omega
      have g2 : (bs (letter p)).size ≤ 4 := by rw [bs_size]; exact letter_le p
      go_wp2
      go_round
      case rel =>
        refine ⟨k + 1, cs ++ [letter p], by omega, by omega, by go_num, ?_, ?_, by simp [HC.out.2.1], ?_⟩
        · rw [bs_append]; simp
        · intro c hc
          rcases List.mem_append.1 hc with h | h
          · exact HC.out.1 c h
          · simp at h; subst h; exact letter_ch p
        · have := letter_le p
          simp only [List.flatten_append, List.length_append, List.flatten_cons, List.flatten_nil, List.append_nil]
          have := HC.out.2.2
          omega
      case measure => simp [intOf]; omega
    · by_cases h1 : k < n
      · have h2 : ¬ k < most := fun h => hlt ⟨h1, h⟩
        clear hlt
        go_wp2
        go_ret
        exact ⟨cs, rfl, HC.out.1, by have := HC.out.2.1; omega, by rw [← List.length_flatten]; have := HC.out.2.2; omega, hb1⟩
      · clear hlt
        go_wp2
        go_ret
        exact ⟨cs, rfl, HC.out.1, by have := HC.out.2.1; omega, by rw [← List.length_flatten]; have := HC.out.2.2; omega, hb1⟩

theorem Try.infoPart : (Try.prog.info? 42).map (fun i => (i.zero, i.size, i.bytes)) = some (some (.agg #[.int .i64 0, .int .i64 0, .string ByteArray.empty]), 3, 32) := by kernel_rfl

theorem cell_three_new (w : World) (a b c : Value) (t : TypeId) : ∀ (j : Nat) (u : Value), [a, b, c][j]? = some u → (w.alloc (.cells #[a, b, c] t)).cell? ((⟨w.heap.size, 0, none⟩ : Addr).add j) = some u := by
  intro j u hj
  match j, hj with
  | 0, hj => simp at hj; subst hj; simp [Addr.add]
  | 1, hj => simp at hj; subst hj; simp [Addr.add]
  | 2, hj => simp at hj; subst hj; simp [Addr.add]

theorem cell_three_new2 (w : World) (o : Obj) (a b c : Value) (t : TypeId) : ∀ (j : Nat) (u : Value), [a, b, c][j]? = some u → ((w.alloc o).alloc (.cells #[a, b, c] t)).cell? ((⟨w.heap.size + 1, 0, none⟩ : Addr).add j) = some u := by
  have h := cell_three_new (w.alloc o) a b c t
  rw [show (w.alloc o).heap.size = w.heap.size + 1 from by simp] at h
  exact h

structure MadeOp (L : List Pt) (n m : Nat) : Prop where
  right : ∀ p ∈ L, Right p
  texts : ∀ p ∈ L, ValidT p.text ∧ p.text.length ≤ 8
  fits : nums L + m = n

theorem MadeOp.snoc {L : List Pt} {n m : Nat} (h : MadeOp L n m) (p : Pt) (hr : Right p) (ht : ValidT p.text ∧ p.text.length ≤ 8) (hp : p.num ≤ m) : MadeOp (L ++ [p]) n (m - p.num) := by
  refine ⟨?_, ?_, ?_⟩
  · intro q hq
    rcases List.mem_append.1 hq with e | e
    · exact h.right q e
    · simp at e; subst e; exact hr
  · intro q hq
    rcases List.mem_append.1 hq with e | e
    · exact h.texts q e
    · simp at e; subst e; exact ht
  · have := h.fits
    rw [nums_append]
    simp only [nums, List.map_cons, List.map_nil, List.sum_cons, List.sum_nil] at *
    omega

theorem letter_valid (i : Nat) : ValidT (letter i) := ⟨[letter i], by simp [letter_ch], by simp⟩
theorem letter_ne (i : Nat) : letter i ≠ [] := fun h => by have := (letter_ch i).1; rw [h] at this; simp at this

theorem made_row {w0 w w' : World} {base : Nat} {v v' : Value} {L : List Pt} {p : Pt} {news : List Value} {row : Option Nat} (hown : w.ownsRow base 42 3 v L.length (rowOf L)) (hrow : row = v.ownBlock)
    (hown' : w'.ownsRow base 42 3 v' (L.length + 1) (rowOf L ++ news)) (hgrow : w.grownBy w' row) (hn : news = ptCells p) (hB : Below base w0 w) (hb : base ≤ w.heap.size) :
    w'.ownsRow base 42 3 v' (L ++ [p]).length (rowOf (L ++ [p])) ∧ Below base w0 w' := by
  subst hn; subst hrow
  refine ⟨by rw [rowOf_snoc]; simpa using hown', hB.grown hgrow hb (fun k hk => (hown.lt k hk).1)⟩

end Go.Proofs.Ytgoaihpaajchaaa
