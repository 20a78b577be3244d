/-
  quillkeep.works, quillkeep.Formed.
-/
import Derived.Test.YtnlafahfcmmehaaWalks8
namespace Go.Proofs.Ytnlafahfcmmehaa
open Go.RowKit

theorem tlen_kp (n : Nat) : tlen (kp n) = 0 := by unfold kp; split <;> simp [tlen, K]
theorem tlen_ip (t : List UInt8) : tlen (ip t) = t.length := by unfold ip; split <;> simp_all [tlen, I]
theorem tlen_dp (n : Nat) : tlen (dp n) = 0 := by unfold dp; split <;> simp [tlen, D]

theorem settle_texts (w : Wr) : tlen w.settle.done + w.settle.put.length = tlen w.done + w.put.length := by
  unfold Wr.settle
  split
  · rfl
  · simp [tlen_append, tlen_kp, tlen_ip, tlen_dp]

theorem steps_tlen (L : List Pt) : ∀ w : Wr, tlen (steps w L).done + (steps w L).put.length ≤ tlen w.done + w.put.length + tlen L := by
  induction L with
  | nil => intro w; simp [steps, tlen]
  | cons p L ih =>
    intro w
    have := ih (w.step p)
    rw [show steps w (p :: L) = steps (w.step p) L from rfl]
    have h2 : tlen (w.step p).done + (w.step p).put.length ≤ tlen w.done + w.put.length + p.text.length := by
      unfold Wr.step
      split
      · unfold Wr.keep
        split
        · omega
        · have := settle_texts w; simp only; omega
      · split
        · simp only [List.length_append]; omega
        · split
          · simp only; omega
          · omega
    have h3 : tlen (p :: L) = p.text.length + tlen L := by simp [tlen]
    omega

theorem norm_tlen (L : List Pt) : tlen (norm L) ≤ tlen L := by
  have h := steps_tlen L Wr.new
  have h2 := settle_texts (steps Wr.new L)
  have e : tlen Wr.new.done + Wr.new.put.length = 0 := rfl
  unfold norm
  omega

theorem le_tlen {L : List Pt} {p : Pt} (h : p ∈ L) : p.text.length ≤ tlen L := by
  induction L with
  | nil => cases h
  | cons q L ih =>
    have h3 : tlen (q :: L) = q.text.length + tlen L := by simp [tlen]
    rcases List.mem_cons.1 h with e | e
    · subst e; omega
    · have := ih e; omega

theorem tlen_le (L : List Pt) (m : Nat) (h : ∀ p ∈ L, p.text.length ≤ m) : tlen L ≤ L.length * m := by
  induction L with
  | nil => simp [tlen]
  | cons q L ih =>
    have h3 : tlen (q :: L) = q.text.length + tlen L := by simp [tlen]
    have h4 := h q (by simp)
    have h5 := ih (fun p hp => h p (by simp [hp]))
    rw [List.length_cons, Nat.add_mul]
    omega

theorem MadeOp.ok {L : List Pt} {n m : Nat} (h : MadeOp L n m) (hl : L.length ≤ 40) (hn : n ≤ 1000) : OkOp L n ∧ Fit L := by
  have h1 := h.fits
  have h2 := tlen_le L 8 (fun p hp => (h.texts p hp).2)
  exact ⟨⟨hl, h.right, fun p hp => ⟨(h.texts p hp).1, by have := (h.texts p hp).2; omega⟩, by omega, by omega⟩, ⟨by omega, h.right, by omega, by omega⟩⟩

theorem norm_ok {L : List Pt} {n : Nat} (h : OkOp L n) (hf : Fit L) : OkOp (norm L) n ∧ Fit (norm L) := by
  obtain ⟨s1, s2⟩ := norm_size L h.right
  have hr := norm_right L h.right hf.numsLe
  have ht := norm_tlen L
  have hv := norm_texts L (fun p hp => (h.texts p hp).1)
  have a1 := h.len; have a2 := h.fits; have a3 := hf.textsLe; have a4 := hf.numsLe
  exact ⟨⟨by omega, hr, fun p hp => ⟨hv p hp, by have := le_tlen hp; omega⟩, by omega, h.small⟩, ⟨by omega, hr, by omega, by omega⟩⟩

def workCs : List (List UInt8) := [[104], [195, 169], [108], [108], [111]]
def workL : List Pt := [K 1, D 1, I [101]]
theorem work_bytes : bs workCs.flatten = { data := #[104, 195, 169, 108, 108, 111] } := rfl
theorem work_apply : applyP workL workCs = [104, 101, 108, 108, 111] := rfl
theorem work_ch : ∀ c ∈ workCs, IsCh c := by
  intro c hc
  simp only [workCs, List.mem_cons, List.not_mem_nil, or_false] at hc
  rcases hc with rfl | rfl | rfl | rfl | rfl
  · exact isCh1 104 (by decide)
  · exact isCh2
  · exact isCh1 108 (by decide)
  · exact isCh1 108 (by decide)
  · exact isCh1 111 (by decide)
theorem work_made : MadeOp workL 5 3 := by
  refine ⟨?_, ?_, rfl⟩
  · intro p hp
    simp only [workL, List.mem_cons, List.not_mem_nil, or_false] at hp
    rcases hp with rfl | rfl | rfl
    · exact .inl ⟨rfl, by decide, by decide, rfl⟩
    · exact .inr (.inr ⟨rfl, by decide, by decide, rfl⟩)
    · exact .inr (.inl ⟨rfl, rfl, by decide⟩)
  · intro p hp
    simp only [workL, List.mem_cons, List.not_mem_nil, or_false] at hp
    rcases hp with rfl | rfl | rfl
    · exact ⟨ValidT.nil, by decide⟩
    · exact ⟨ValidT.nil, by decide⟩
    · exact ⟨⟨[[101]], by simp only [List.mem_singleton]; rintro c rfl; exact isCh1 101 (by decide), rfl⟩, by decide⟩

theorem work_parts (w : World) : PartsAt (w.alloc (.cells #[.int .i64 1, .int .i64 1, .string ⟨#[]⟩, .int .i64 3, .int .i64 1, .string ⟨#[]⟩, .int .i64 2, .int .i64 0, .string ⟨#[101]⟩] 53)) (.slice (some ⟨w.heap.size, 0, none⟩) 3 3) workL := by
  refine ⟨_, _, rfl, fun _ => ⟨w.heap.size, 0, rfl, by simp, fun k hk => ?_⟩⟩
  have hb := heap_alloc_new w (.cells #[.int .i64 1, .int .i64 1, .string ⟨#[]⟩, .int .i64 3, .int .i64 1, .string ⟨#[]⟩, .int .i64 2, .int .i64 0, .string ⟨#[101]⟩] 53)
  have hk' : k < 3 := hk
  match k, hk' with
  | 0, _ => exact ⟨Lib.cell_of_heap hb 0, Lib.cell_of_heap hb 1, Lib.cell_of_heap hb 2⟩
  | 1, _ => exact ⟨Lib.cell_of_heap hb 3, Lib.cell_of_heap hb 4, Lib.cell_of_heap hb 5⟩
  | 2, _ => exact ⟨Lib.cell_of_heap hb 6, Lib.cell_of_heap hb 7, Lib.cell_of_heap hb 8⟩

theorem work_call (w : World) : Calls Try.prog 12 #[.string { data := #[104, 195, 169, 108, 108, 111] }, .slice (some ⟨w.heap.size, 0, none⟩) 3 3] (w.alloc (.cells #[.int .i64 1, .int .i64 1, .string ⟨#[]⟩, .int .i64 3, .int .i64 1, .string ⟨#[]⟩, .int .i64 2, .int .i64 0, .string ⟨#[101]⟩] 53)) fun e w' => e = .returned (.tuple #[.string { data := #[104, 101, 108, 108, 111] }, .int .i64 0]) ∧ Below w.heap.size w w' := by
  have hm := work_made.ok (by decide) (by decide)
  have h := Apply_ok _ workL workCs _ (work_parts w) hm.1 hm.2 work_ch (by decide)
  rw [work_bytes, work_apply] at h
  refine h.mono ?_
  rintro e w' ⟨rfl, hb⟩
  exact ⟨rfl, ((Below.refl _ _).alloc (Nat.le_refl _) _).trans (hb.mono (by simp))⟩

set_option maxHeartbeats 400000 in
theorem works_any (w : World) : Calls Try.prog 6 #[] w fun e w' => e = .returned (.bool true) ∧ Below w.heap.size w w' := by
  go_enter Try.func6, Try.ntmps6
  go_wp2_with (go_at_call 12; refine (work_call _).mono ?_; rintro e w1 ⟨rfl, hb⟩)
  go_ret
  exact ⟨rfl, hb⟩

set_option maxHeartbeats 1000000 in
theorem formed_any (v0 v1 : Value) (n0 n1 : Nat) (z0 z1 : Nat → Int) (w : World) (h0 : IntsAt w v0 n0 z0) (h1 : IntsAt w v1 n1 z1) :
    Calls Try.prog 4 #[v0, v1] w fun e w' => e = .returned (.bool true) ∧ Below w.heap.size w w' := by
  have H0 : Hid (IntsAt w v0 n0 z0 ∧ IntsAt w v1 n1 z1) := ⟨h0, h1⟩
  obtain ⟨a0, c0, rfl, _⟩ := h0
  obtain ⟨a1, c1, rfl, _⟩ := h1
  go_enter Try.func4, Try.ntmps4
  go_wp2_with fail
  refine (works_any _).mono ?_
  rintro e w1 ⟨rfl, hb1⟩
  go_wp2_with fail
  refine (text_any _ n1 30 z1 _ (H0.out.2.below hb1 (Nat.le_refl _)) (by omega)).mono ?_
  rintro e w2 ⟨cs, rfl, hch, hcl, hfl, hb2⟩
  have HC : Hid ((∀ c ∈ cs, IsCh c) ∧ cs.length ≤ 30 ∧ cs.flatten.length ≤ 4 * 30) := ⟨hch, hcl, hfl⟩
  have HB2 : Hid (Below w.heap.size w w2) := hb1.trans (hb2.mono hb1.size)
  clear hch hcl hfl hb1 hb2
  have hlen : ∀ x, Calls Try.prog 9 #[.string (bs cs.flatten)] x fun e w' => e = .returned (.int .i64 cs.length) ∧ w' = x := by
    intro x
    have := length_any (bs cs.flatten) x (by rw [bs_size]; have := HC.out.2.2; omega)
    rw [bs_data, leads_chars cs HC.out.1] at this
    exact this
  have HL : Hid (∀ x, Calls Try.prog 9 #[.string (bs cs.flatten)] x fun e w' => e = .returned (.int .i64 cs.length) ∧ w' = x) := hlen
  clear hlen
  go_wp2_with fail
  refine (HL.out _).mono ?_
  rintro e w3 ⟨rfl, rfl⟩
  go_wp2_with fail
  refine (made_any _ n0 cs.length z0 _ (H0.out.1.below HB2.out (Nat.le_refl _)) (by have := HC.out.2.1; omega)).mono ?_
  rintro e w4 ⟨v, L, m, rfl, hp, hll, hmade, hb4⟩
  have HM : Hid (OkOp L cs.length ∧ Fit L) := hmade.ok hll (by have := HC.out.2.1; omega)
  have HP : Hid (PartsAt w4 v L ∧ Below w.heap.size w w4) := ⟨hp, HB2.out.trans (hb4.mono HB2.out.size)⟩
  obtain ⟨ao, cap, rfl, _⟩ := hp
  clear hmade hb4 hll
  go_wp2_with fail
  refine (HL.out _).mono ?_
  rintro e w5 ⟨rfl, rfl⟩
  go_wp2_with fail
  refine (Normal_ok _ L cs.length _ HP.out.1 HM.out.1 HM.out.2).mono ?_
  rintro e w6 ⟨v6, rfl, hp6, hb6⟩
  have HN : Hid (OkOp (norm L) cs.length ∧ Fit (norm L)) := norm_ok HM.out.1 HM.out.2
  have HP6 : Hid (PartsAt w6 v6 (norm L) ∧ PartsAt w6 (.slice ao L.length cap) L ∧ Below w.heap.size w w6) := ⟨hp6, HP.out.1.below hb6 (Nat.le_refl _), HP.out.2.trans (hb6.mono HP.out.2.size)⟩
  obtain ⟨ao6, cap6, rfl, _⟩ := hp6
  clear hb6
  have hnl : (norm L).length ≤ 40 := HN.out.1.len
  go_wp2_with fail
  refine (normal_yes _ (norm L) _ HP6.out.1 (by omega) (norm_nf L)).mono ?_
  rintro e w7 ⟨rfl, hb7⟩
  have HP7 : Hid (PartsAt w7 (.slice ao6 (norm L).length cap6) (norm L) ∧ PartsAt w7 (.slice ao L.length cap) L ∧ Below w.heap.size w w7) := ⟨HP6.out.1.below hb7 (Nat.le_refl _), HP6.out.2.1.below hb7 (Nat.le_refl _), HP6.out.2.2.trans (hb7.mono HP6.out.2.2.size)⟩
  clear hb7
  go_wp2_with fail
  refine (Apply_ok _ L cs _ HP7.out.2.1 HM.out.1 HM.out.2 HC.out.1 (by have := HC.out.2.2; omega)).mono ?_
  rintro e w8 ⟨rfl, hb8⟩
  have HP8 : Hid (PartsAt w8 (.slice ao6 (norm L).length cap6) (norm L) ∧ Below w.heap.size w w8) := ⟨HP7.out.1.below hb8 (Nat.le_refl _), HP7.out.2.2.trans (hb8.mono HP7.out.2.2.size)⟩
  clear hb8
  go_wp2_with fail
  refine (Apply_ok _ (norm L) cs _ HP8.out.1 HN.out.1 HN.out.2 HC.out.1 (by have := HC.out.2.2; omega)).mono ?_
  rintro e w9 ⟨rfl, hb9⟩
  have HP9 : Hid (PartsAt w9 (.slice ao6 (norm L).length cap6) (norm L) ∧ Below w.heap.size w w9) := ⟨HP8.out.1.below hb9 (Nat.le_refl _), HP8.out.2.trans (hb9.mono HP8.out.2.size)⟩
  clear hb9
  rw [norm_apply L HM.out.1.right cs]
  go_wp2_with fail
  refine (HL.out _).mono ?_
  rintro e w10 ⟨rfl, rfl⟩
  go_wp2_with fail
  refine (Normal_ok _ (norm L) cs.length _ HP9.out.1 HN.out.1 HN.out.2).mono ?_
  rintro e w11 ⟨v11, rfl, hp11, hb11⟩
  rw [norm_norm] at hp11
  have HP11 : Hid (PartsAt w11 v11 (norm L) ∧ PartsAt w11 (.slice ao6 (norm L).length cap6) (norm L) ∧ Below w.heap.size w w11) := ⟨hp11, HP9.out.1.below hb11 (Nat.le_refl _), HP9.out.2.trans (hb11.mono HP9.out.2.size)⟩
  obtain ⟨ao11, cap11, rfl, _⟩ := hp11
  clear hb11
  go_wp2_with fail
  refine (same_yes _ _ (norm L) _ HP11.out.2.1 HP11.out.1 (by omega)).mono ?_
  rintro e w12 ⟨rfl, hb12⟩
  go_wp2
  go_ret
  exact ⟨by simp, HP11.out.2.2.trans (hb12.mono HP11.out.2.2.size)⟩

end Go.Proofs.Ytnlafahfcmmehaa
