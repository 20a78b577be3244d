/-
  What the laws of quillkeep make and ask: made, short, works.
-/
import Derived.Test.YtgoaihpaajchaaaOps1
namespace Go.Proofs.Ytgoaihpaajchaaa
open Go.RowKit

theorem tlen_kp (n : Nat) : tlen (kp n) = 0 := by unfold kp; split <;> simp [tlen, K]
theorem tlen_ip (t : List UInt8) : tlen (ip t) = t.length := by unfold ip; split <;> simp_all [tlen, I]
theorem tlen_dp (n : Nat) : tlen (dp n) = 0 := by unfold dp; split <;> simp [tlen, D]

theorem settle_texts (w : Wr) : tlen w.settle.done + w.settle.put.length = tlen w.done + w.put.length := by
  unfold Wr.settle
  split
  · rfl
  · simp [tlen_append, tlen_kp, tlen_ip, tlen_dp]

theorem steps_tlen (L : List Pt) : ∀ w : Wr, tlen (steps w L).done + (steps w L).put.length ≤ tlen w.done + w.put.length + tlen L := by
  induction L with
  | nil => intro w; simp [steps, tlen]
  | cons p L ih =>
    intro w
    have := ih (w.step p)
    rw [show steps w (p :: L) = steps (w.step p) L from rfl]
    have h2 : tlen (w.step p).done + (w.step p).put.length ≤ tlen w.done + w.put.length + p.text.length := by
      unfold Wr.step
      split
      · unfold Wr.keep
        split
        · omega
        · have := settle_texts w; simp only; omega
      · split
        · simp only [List.length_append]; omega
        · split
          · simp only; omega
          · omega
    have h3 : tlen (p :: L) = p.text.length + tlen L := by simp [tlen]
    omega

theorem norm_tlen (L : List Pt) : tlen (norm L) ≤ tlen L := by
  have h := steps_tlen L Wr.new
  have h2 := settle_texts (steps Wr.new L)
  have e : tlen Wr.new.done + Wr.new.put.length = 0 := rfl
  unfold norm
  omega

theorem le_tlen {L : List Pt} {p : Pt} (h : p ∈ L) : p.text.length ≤ tlen L := by
  induction L with
  | nil => cases h
  | cons q L ih =>
    have h3 : tlen (q :: L) = q.text.length + tlen L := by simp [tlen]
    rcases List.mem_cons.1 h with e | e
    · subst e; omega
    · have := ih e; omega

theorem tlen_le (L : List Pt) (m : Nat) (h : ∀ p ∈ L, p.text.length ≤ m) : tlen L ≤ L.length * m := by
  induction L with
  | nil => simp [tlen]
  | cons q L ih =>
    have h3 : tlen (q :: L) = q.text.length + tlen L := by simp [tlen]
    have h4 := h q (by simp)
    have h5 := ih (fun p hp => h p (by simp [hp]))
    rw [List.length_cons, Nat.add_mul]
    omega


/-- a list of parts that is held. -/
def Held (w : World) (v : Value) (L : List Pt) : Prop := PartsAt w v L ∧ CapOk v
theorem Held.below {w w' : World} {v : Value} {L : List Pt} (h : Held w v L) (hb : Below w.heap.size w w') : Held w' v L := ⟨h.1.below hb (Nat.le_refl _), h.2⟩
theorem Held.form {w : World} {v : Value} {L : List Pt} (h : Held w v L) : ∃ ao cap, v = .slice ao L.length cap := by
  obtain ⟨⟨ao, cap, rfl, _⟩, _⟩ := h
  exact ⟨_, _, rfl⟩
theorem IntsAt.below' {w w' : World} {v : Value} {n : Nat} {z : Nat → Int} (h : IntsAt w v n z) (hb : Below w.heap.size w w') : IntsAt w' v n z := h.below hb (Nat.le_refl _)

theorem tlen_sum (L : List Pt) : tlen L = (L.map (fun p => p.text.length)).sum := rfl

/-- A NORMAL FORM IS AN OPERATION AGAIN. -/
theorem opU_norm {us : List Un} {n : Nat} (ok : OkU us) (fit : inU us ≤ n) (small : n ≤ 1000000) (len : (normU us).length ≤ 40) (by' : bytesU us ≤ 100000000) : ∃ xs, OpU (normU us) xs n ∧ Eqv xs us := by
  obtain ⟨xs, hr, he⟩ := reads_norm us ok
  refine ⟨xs, ⟨hr, len, ?_, small, ?_⟩, he⟩
  · have := normU_nums us ok
    rw [hr.nums.1] at this
    omega
  · have h1 := norm_tlen (us.map Un.pt)
    have h2 : tlen (us.map Un.pt) = bytesU us := by
      clear h1 hr he fit len by' ok small
      induction us with
      | nil => rfl
      | cons u us ih => cases u <;> simp only [tlen, List.map_cons, List.sum_cons, bytesU, Un.pt, K, D, I, List.length_nil] at * <;> omega
    have h3 := hr.nums.2
    rw [← tlen_sum] at h3
    rw [← h3]
    show tlen (norm (us.map Un.pt)) ≤ _
    omega

theorem MadeOp.opU {L : List Pt} {n m : Nat} (h : MadeOp L n m) (hl : L.length ≤ 40) (hn : n ≤ 100000) : ∃ us, OpU L us n ∧ bytesU us ≤ 8 * L.length := by
  obtain ⟨us, hr⟩ := reads_of L h.right (fun p hp => (h.texts p hp).1)
  have h2 := tlen_le L 8 (fun p hp => (h.texts p hp).2)
  have h3 := hr.nums
  rw [← tlen_sum] at h3
  have h4 := h.fits
  exact ⟨us, ⟨hr, hl, by omega, by omega, by omega⟩, by omega⟩

set_option maxHeartbeats 1000000 in
set_option maxRecDepth 100000 in
theorem made_ok (v : Value) (n0 n : Nat) (z : Nat → Int) (w : World) (hv : IntsAt w v n0 z) (hm : n ≤ 1000) :
    Calls Try.prog 9 #[v, .int .i64 n] w fun e w' => ∃ (v' : Value) (L : List Pt) (m : Nat), e = .returned v' ∧ PartsAt w' v' L ∧ CapOk v' ∧ (L.length ≤ 40 ∧ L.length ≤ n0) ∧ MadeOp L n m ∧ Below w.heap.size w w' := by
  obtain ⟨ao, cap, rfl, hn, hc⟩ := hv
  obtain ⟨i0, hi, hz0, hz1, hz2⟩ := info_parts Try.infoPart
  go_enter Try.func9, Try.ntmps9
  go_wp2_with fail
  refine (letters_any _).mono ?_
  rintro e w1 ⟨rfl, hs1, hb1, hl1⟩
  go_wp2
  go_loopw [1, 5, 7] (fun m op i wr => ∃ (k m' : Nat) (L : List Pt), k ≤ n0 ∧ k ≤ 40 ∧ i = .int .i64 k ∧ m = .int .i64 m' ∧ wr.ownsRow w1.heap.size 42 3 op L.length (rowOf L) ∧ L.length ≤ k ∧ MadeOp L n m' ∧ Below w1.heap.size w1 wr) (fun _ _ i _ => n0 - (intOf i).toNat)
  case atStart => exact ⟨0, n, [], Nat.zero_le _, Nat.zero_le _, rfl, rfl, World.ownsRow_nil _ _ _ _, Nat.le_refl _, ⟨by simp, by simp, by simp [nums]⟩, Below.refl _ _⟩
  case round =>
    obtain ⟨k, m', L, hk, hk40, rfl, rfl, hown, hLk, hmade, hB⟩ := hrel
    have HM : Hid (MadeOp L n m') := hmade
    have hmn : m' ≤ n := by have := hmade.fits; omega
    clear hmade
    by_cases hlt : k < n0 ∧ k < 40
    · obtain ⟨h1, h2⟩ := hlt
      obtain ⟨b, off, rfl, hbl, hcc⟩ := hc (by omega)
      obtain ⟨c0, z1, z2⟩ := hcc k h1
      have hz := hB.size
      rw [← hb1.cell (p := ⟨b, _, none⟩) hbl, ← hB.cell (p := ⟨b, _, none⟩) (by show b < _; omega)] at c0
      go_wp2_with fail
      refine (pick_any _ _ _ z1 z2 (by omega) (by omega)).mono ?_
      rintro e w2 ⟨rfl, rfl⟩
      have hp := pickI_bd (z k) 3000 (by omega)
      obtain ⟨p, hpe⟩ := Int.eq_ofNat_of_zero_le hp.1
      rw [hpe] at hp ⊢
      have hp1 : (p : Int) < 3000 := hp.2
      clear hp hpe
      have hl : ∀ i, i < 8 → w2.cell? ⟨w.heap.size, i, none⟩ = some (.string (bs (letter i))) := fun i hi => (hB.cell (p := ⟨w.heap.size, i, none⟩) (by show w.heap.size < _; omega)).trans (hl1 i hi)
      clear hl1
      by_cases hc0 : (p : Int) % 3 = 0
      · have hd0 : ((p : Int) % 3 == 0) = true := by simp [hc0]
        have hx1 := hl (p / 3 % 8) (by omega)
        have hx2 := hl (p / 24 % 8) (by omega)
        clear hl
        have g1 : (bs (letter (p / 3 % 8))).size ≤ 4 := by rw [bs_size]; exact letter_le _
        have g2 : (bs (letter (p / 24 % 8))).size ≤ 4 := by rw [bs_size]; exact letter_le _
        by_cases hg : (1500 : Int) < (p : Int)
        · go_wp2_with (at_builtin; refine wpList_append_own _ rfl (.tmp 67) (.tmp 70) 25 rfl w1.heap.size 42 i0 _ 3 32 Try.underlying25 hi hz0 hz1 hz2 rfl (by decide) _ _ _ rfl (hown.alloc _) ⟨w2.heap.size, 0, none⟩ 1 1 [.int .i64 2, .int .i64 0, .string (bs (letter (p / 3 % 8)) ++ bs (letter (p / 24 % 8)))] rfl rfl (cell_three_new _ _ _ _ _) (fun x hx => by simp at hx; rcases hx with rfl | rfl | rfl <;> rfl) (by unfold maxLen; omega) (by omega) (by simp; omega) ?_; intro v' w3 hown' hgrow _)
          obtain ⟨R1, R2⟩ := made_row (p := I (letter (p / 3 % 8) ++ letter (p / 24 % 8))) (hown.alloc _) rfl hown' hgrow (by rw [bs_append]; rfl) (hB.alloc (by omega) _) (by simp; omega)
          go_roundw
          case rel => exact ⟨k + 1, m', L ++ [I (letter (p / 3 % 8) ++ letter (p / 24 % 8))], by omega, by omega, by go_num, rfl, R1, by simp; omega, HM.out.snoc _ (.inr (.inl ⟨rfl, rfl, by simp [I, letter_ne]⟩)) ⟨(letter_valid _).append (letter_valid _), by have a1 := letter_le (p / 3 % 8); have a2 := letter_le (p / 24 % 8); simp only [I, List.length_append]; omega⟩ (Nat.zero_le _), R2⟩
          case measure => simp [intOf]; omega
        · go_wp2_with (at_builtin; refine wpList_append_own _ rfl (.tmp 67) (.tmp 70) 25 rfl w1.heap.size 42 i0 _ 3 32 Try.underlying25 hi hz0 hz1 hz2 rfl (by decide) _ _ _ rfl (hown.alloc _) ⟨w2.heap.size, 0, none⟩ 1 1 [.int .i64 2, .int .i64 0, .string (bs (letter (p / 3 % 8)))] rfl rfl (cell_three_new _ _ _ _ _) (fun x hx => by simp at hx; rcases hx with rfl | rfl | rfl <;> rfl) (by unfold maxLen; omega) (by omega) (by simp; omega) ?_; intro v' w3 hown' hgrow _)
          obtain ⟨R1, R2⟩ := made_row (p := I (letter (p / 3 % 8))) (hown.alloc _) rfl hown' hgrow rfl (hB.alloc (by omega) _) (by simp; omega)
          go_roundw
          case rel => exact ⟨k + 1, m', L ++ [I (letter (p / 3 % 8))], by omega, by omega, by go_num, rfl, R1, by simp; omega, HM.out.snoc _ (.inr (.inl ⟨rfl, rfl, by simp [I, letter_ne]⟩)) ⟨letter_valid _, by have a1 := letter_le (p / 3 % 8); simp only [I]; omega⟩ (Nat.zero_le _), R2⟩
          case measure => simp [intOf]; omega
      · by_cases hc1 : (p : Int) % 3 = 1
        · have hd0 : ((p : Int) % 3 == 0) = false := by simp [hc1]
          have hq : 0 ≤ (p : Int) / 3 % 3 ∧ (p : Int) / 3 % 3 < 3 := by omega
          by_cases hg : (m' : Int) < 1 + (p : Int) / 3 % 3
          · go_wp2
            go_roundw
            case rel => exact ⟨k + 1, m', L, by omega, by omega, by go_num, rfl, hown, by omega, HM.out, hB⟩
            case measure => simp [intOf]; omega
          · go_wp2_with (at_builtin; refine wpList_append_own _ rfl (.tmp 39) (.tmp 47) 25 rfl w1.heap.size 42 i0 _ 3 32 Try.underlying25 hi hz0 hz1 hz2 rfl (by decide) _ _ _ rfl ((hown.alloc _).alloc _) ⟨w2.heap.size + 1, 0, none⟩ 1 1 [.int .i64 1, .int .i64 (1 + (p : Int) / 3 % 3), .string ⟨#[]⟩] rfl rfl (cell_three_new2 _ _ _ _ _ _) (fun x hx => by simp at hx; rcases hx with rfl | rfl | rfl <;> rfl) (by unfold maxLen; omega) (by omega) (by simp; omega) ?_; intro v' w3 hown' hgrow _)
            obtain ⟨R1, R2⟩ := made_row (p := K (1 + p / 3 % 3)) ((hown.alloc _).alloc _) rfl hown' hgrow (by simp [ptCells, K, bs]) ((hB.alloc (by omega) _).alloc (by simp; omega) _) (by simp; omega)
            go_roundw
            case rel => exact ⟨k + 1, m' - (1 + p / 3 % 3), L ++ [K (1 + p / 3 % 3)], by omega, by omega, by go_num, by go_num, R1, by simp; omega, HM.out.snoc _ (.inl ⟨rfl, by simp [K], by simp only [K]; omega, rfl⟩) ⟨ValidT.nil, by simp [K]⟩ (by show 1 + p / 3 % 3 ≤ m'; omega), R2⟩
            case measure => simp [intOf]; omega
        · by_cases hc2 : (p : Int) % 3 = 2
          · have hd0 : ((p : Int) % 3 == 0) = false := by simp [hc2]
            have hq : 0 ≤ (p : Int) / 3 % 3 ∧ (p : Int) / 3 % 3 < 3 := by omega
            by_cases hg : (m' : Int) < 1 + (p : Int) / 3 % 3
            · go_wp2
              go_roundw
              case rel => exact ⟨k + 1, m', L, by omega, by omega, by go_num, rfl, hown, by omega, HM.out, hB⟩
              case measure => simp [intOf]; omega
            · go_wp2_with (at_builtin; refine wpList_append_own _ rfl (.tmp 39) (.tmp 47) 25 rfl w1.heap.size 42 i0 _ 3 32 Try.underlying25 hi hz0 hz1 hz2 rfl (by decide) _ _ _ rfl ((hown.alloc _).alloc _) ⟨w2.heap.size + 1, 0, none⟩ 1 1 [.int .i64 3, .int .i64 (1 + (p : Int) / 3 % 3), .string ⟨#[]⟩] rfl rfl (cell_three_new2 _ _ _ _ _ _) (fun x hx => by simp at hx; rcases hx with rfl | rfl | rfl <;> rfl) (by unfold maxLen; omega) (by omega) (by simp; omega) ?_; intro v' w3 hown' hgrow _)
              obtain ⟨R1, R2⟩ := made_row (p := D (1 + p / 3 % 3)) ((hown.alloc _).alloc _) rfl hown' hgrow (by simp [ptCells, D, bs]) ((hB.alloc (by omega) _).alloc (by simp; omega) _) (by simp; omega)
              go_roundw
              case rel => exact ⟨k + 1, m' - (1 + p / 3 % 3), L ++ [D (1 + p / 3 % 3)], by omega, by omega, by go_num, by go_num, R1, by simp; omega, HM.out.snoc _ (.inr (.inr ⟨rfl, by simp [D], by simp only [D]; omega, rfl⟩)) ⟨ValidT.nil, by simp [D]⟩ (by show 1 + p / 3 % 3 ≤ m'; omega), R2⟩
              case measure => simp [intOf]; omega
          · omega
    · by_cases h1 : k < n0
      · have h2 : ¬ k < 40 := fun h => hlt ⟨h1, h⟩
        clear hlt
        go_wp2
        go_ret
        exact ⟨_, L, m', rfl, parts_of_row hown, cap_row hown, by omega, HM.out, hb1.trans (hB.mono hb1.size)⟩
      · clear hlt
        go_wp2
        go_ret
        exact ⟨_, L, m', rfl, parts_of_row hown, cap_row hown, by omega, HM.out, hb1.trans (hB.mono hb1.size)⟩


set_option maxHeartbeats 400000 in
theorem short_any (v : Value) (n : Nat) (z : Nat → Int) (w : World) (hv : IntsAt w v n z) (hcap : CapOk v) :
    Calls Try.prog 15 #[v] w fun e w' => ∃ v', e = .returned v' ∧ IntsAt w v' (min n 10) z ∧ w' = w := by
  have HV : Hid (IntsAt w v n z) := hv
  obtain ⟨ao, cap, rfl, hn, hc⟩ := hv
  by_cases h : n ≤ 10
  · clear hc
    go_enter Try.func15, Try.ntmps15
    go_wp2
    go_ret
    exact ⟨_, rfl, by rw [Nat.min_eq_left h]; exact HV.out, rfl⟩
  · have hcap2 : n ≤ cap := hcap
    have HC : Hid (0 < n → ∃ b off, ao = some ⟨b, off, none⟩ ∧ b < w.heap.size ∧ ∀ k, k < n → w.cell? ⟨b, off + k, none⟩ = some (.int .i64 (z k)) ∧ -9223372036854775808 ≤ z k ∧ z k ≤ 9223372036854775807) := hc
    clear hc hcap
    go_enter Try.func15, Try.ntmps15
    go_wp2
    go_ret
    refine ⟨_, rfl, ⟨ao, cap, by rw [Nat.min_eq_right (by omega)]; rfl, by omega, fun _ => ?_⟩, rfl⟩
    obtain ⟨b, off, e, hb, hk⟩ := HC.out (by omega)
    exact ⟨b, off, e, hb, fun k hk2 => hk k (by omega)⟩

def workCs : List (List UInt8) := [[104], [195, 169], [108], [108], [111]]
def workL : List Pt := [K 1, D 1, I [101]]
theorem work_bytes : bs workCs.flatten = { data := #[104, 195, 169, 108, 108, 111] } := rfl
theorem work_apply : applyP workL workCs = [104, 101, 108, 108, 111] := rfl
theorem work_ch : ∀ c ∈ workCs, IsCh c := by
  intro c hc
  simp only [workCs, List.mem_cons, List.not_mem_nil, or_false] at hc
  rcases hc with rfl | rfl | rfl | rfl | rfl
  · exact isCh1 104 (by decide)
  · exact isCh2
  · exact isCh1 108 (by decide)
  · exact isCh1 108 (by decide)
  · exact isCh1 111 (by decide)
theorem work_made : MadeOp workL 5 3 := by
  refine ⟨?_, ?_, rfl⟩
  · intro p hp
    simp only [workL, List.mem_cons, List.not_mem_nil, or_false] at hp
    rcases hp with rfl | rfl | rfl
    · exact .inl ⟨rfl, by decide, by decide, rfl⟩
    · exact .inr (.inr ⟨rfl, by decide, by decide, rfl⟩)
    · exact .inr (.inl ⟨rfl, rfl, by decide⟩)
  · intro p hp
    simp only [workL, List.mem_cons, List.not_mem_nil, or_false] at hp
    rcases hp with rfl | rfl | rfl
    · exact ⟨ValidT.nil, by decide⟩
    · exact ⟨ValidT.nil, by decide⟩
    · exact ⟨⟨[[101]], by simp only [List.mem_singleton]; rintro c rfl; exact isCh1 101 (by decide), rfl⟩, by decide⟩

theorem work_parts (w : World) : PartsAt (w.alloc (.cells #[.int .i64 1, .int .i64 1, .string ⟨#[]⟩, .int .i64 3, .int .i64 1, .string ⟨#[]⟩, .int .i64 2, .int .i64 0, .string ⟨#[101]⟩] 42)) (.slice (some ⟨w.heap.size, 0, none⟩) 3 3) workL := by
  refine ⟨_, _, rfl, fun _ => ⟨w.heap.size, 0, rfl, by simp, fun k hk => ?_⟩⟩
  have hb := heap_alloc_new w (.cells #[.int .i64 1, .int .i64 1, .string ⟨#[]⟩, .int .i64 3, .int .i64 1, .string ⟨#[]⟩, .int .i64 2, .int .i64 0, .string ⟨#[101]⟩] 42)
  have hk' : k < 3 := hk
  match k, hk' with
  | 0, _ => exact ⟨Lib.cell_of_heap hb 0, Lib.cell_of_heap hb 1, Lib.cell_of_heap hb 2⟩
  | 1, _ => exact ⟨Lib.cell_of_heap hb 3, Lib.cell_of_heap hb 4, Lib.cell_of_heap hb 5⟩
  | 2, _ => exact ⟨Lib.cell_of_heap hb 6, Lib.cell_of_heap hb 7, Lib.cell_of_heap hb 8⟩


end Go.Proofs.Ytgoaihpaajchaaa
