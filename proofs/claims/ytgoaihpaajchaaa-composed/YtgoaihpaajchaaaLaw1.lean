/-
  quillkeep.works, quillkeep.Formed.
-/
import Derived.Test.YtgoaihpaajchaaaMade
namespace Go.Proofs.Ytgoaihpaajchaaa
open Go.RowKit

theorem length_chars {cs : List (List UInt8)} (h : ∀ c ∈ cs, IsCh c) (hl : cs.flatten.length ≤ 1000000000) : ∀ x, Calls Try.prog 10 #[.string (bs cs.flatten)] x fun e w' => e = .returned (.int .i64 cs.length) ∧ w' = x := by
  intro x
  have := length_any (bs cs.flatten) x (by rw [bs_size]; omega)
  rw [bs_data, leads_chars cs h] at this
  exact this

theorem work_call (w : World) : Calls Try.prog 13 #[.string { data := #[104, 195, 169, 108, 108, 111] }, .slice (some ⟨w.heap.size, 0, none⟩) 3 3] (w.alloc (.cells #[.int .i64 1, .int .i64 1, .string ⟨#[]⟩, .int .i64 3, .int .i64 1, .string ⟨#[]⟩, .int .i64 2, .int .i64 0, .string ⟨#[101]⟩] 42)) fun e w' => e = .returned (.tuple #[.string { data := #[104, 101, 108, 108, 111] }, .int .i64 0]) ∧ Below w.heap.size w w' := by
  obtain ⟨us, hu, _⟩ := work_made.opU (by decide) (by decide)
  have h := Apply_ok _ workL us workCs _ (work_parts w) (Nat.le_refl 3) hu work_ch (by decide)
  rw [work_bytes, ← hu.reads.apply, work_apply] at h
  refine h.mono ?_
  rintro e w' ⟨rfl, hb⟩
  exact ⟨rfl, ((Below.refl _ _).alloc (Nat.le_refl _) _).trans (hb.mono (by simp))⟩

set_option maxHeartbeats 400000 in
theorem works_any (w : World) : Calls Try.prog 7 #[] w fun e w' => e = .returned (.bool true) ∧ Below w.heap.size w w' := by
  go_enter Try.func7, Try.ntmps7
  go_wp2_with (go_at_call 13; refine (work_call _).mono ?_; rintro e w1 ⟨rfl, hb⟩)
  go_ret
  exact ⟨rfl, hb⟩

set_option maxHeartbeats 1000000 in
theorem formed_any (a0 a1 : Option Addr) (n0 c0 n1 c1 : Nat) (z0 z1 : Nat → Int) (w : World) (h0 : IntsAt w (.slice a0 n0 c0) n0 z0) (h1 : IntsAt w (.slice a1 n1 c1) n1 z1) :
    Calls Try.prog 3 #[.slice a0 n0 c0, .slice a1 n1 c1] w fun e w' => e = .returned (.bool true) ∧ Below w.heap.size w w' := by
  have HP0 : Hid (IntsAt w (.slice a0 n0 c0) (n0) z0 ∧ IntsAt w (.slice a1 n1 c1) (n1) z1 ∧ Below w.heap.size w w) := ⟨h0 , h1, Below.refl _ _⟩
  clear h0 h1
  go_enter Try.func3, Try.ntmps3
  go_wp2_with fail
  refine (works_any _).mono ?_
  rintro e w1 ⟨rfl, hb⟩
  have HP1 : Hid (IntsAt w1 (.slice a0 n0 c0) (n0) z0 ∧ IntsAt w1 (.slice a1 n1 c1) (n1) z1 ∧ Below w.heap.size w w1) := ⟨(HP0.out.1).below' hb, (HP0.out.2.1).below' hb, (HP0.out.2.2).trans (hb.mono (HP0.out.2.2).size)⟩
  clear hb
  go_wp2_with fail
  refine (text_any _ n1 30 z1 _ (HP1.out.2.1) (by omega)).mono ?_
  rintro e w2 ⟨cs, rfl, hch, hcl, hfl, hb⟩
  have HC : Hid ((∀ c ∈ cs, IsCh c) ∧ cs.length ≤ 30 ∧ cs.flatten.length ≤ 4 * 30) := ⟨hch, hcl, hfl⟩
  have HL : Hid (∀ x, Calls Try.prog 10 #[.string (bs cs.flatten)] x fun e w' => e = .returned (.int .i64 cs.length) ∧ w' = x) := length_chars HC.out.1 (by have := HC.out.2.2; omega)
  clear hch hcl hfl
  have HP2 : Hid (IntsAt w2 (.slice a0 n0 c0) (n0) z0 ∧ Below w.heap.size w w2) := ⟨(HP1.out.1).below' hb, (HP1.out.2.2).trans (hb.mono (HP1.out.2.2).size)⟩
  clear hb
  go_wp2_with fail
  refine (HL.out _).mono ?_
  rintro e wq1 ⟨rfl, rfl⟩
  go_wp2_with fail
  refine (made_ok _ (n0) cs.length z0 _ (HP2.out.1) (by have := HC.out.2.1; omega)).mono ?_
  rintro e w3 ⟨vA, LA, mA, rfl, hp, hcap, hll, hmade, hb⟩
  obtain ⟨uA, hu, hub⟩ := hmade.opU hll.1 (by have := HC.out.2.1; omega)
  have hheld : Held w3 vA LA := ⟨hp, hcap⟩
  obtain ⟨aoA, capA, rfl⟩ := hheld.form
  have HUA : Hid (OpU LA uA cs.length ∧ bytesU uA ≤ 8 * LA.length ∧ LA.length ≤ n0) := ⟨hu, hub, by omega⟩
  clear hp hcap hll hmade hu hub
  have HP3 : Hid (IntsAt w3 (.slice a0 n0 c0) (n0) z0 ∧ Held w3 (.slice aoA (LA).length capA) (LA) ∧ Below w.heap.size w w3) := ⟨(HP2.out.1).below' hb, hheld, (HP2.out.2).trans (hb.mono (HP2.out.2).size)⟩
  clear hb hheld
  go_wp2_with fail
  refine (HL.out _).mono ?_
  rintro e wq2 ⟨rfl, rfl⟩
  go_wp2_with fail
  refine (Normal_ok _ LA uA cs.length _ HP3.out.2.1.1 HP3.out.2.1.2 HUA.out.1).mono ?_
  rintro e w4 ⟨vB, rfl, ⟨hp, hcap, hb⟩, hln⟩
  have hheld : Held w4 vB (normU uA) := ⟨hp, hcap⟩
  obtain ⟨aoB, capB, rfl⟩ := hheld.form
  have HNB : Hid ((normU uA).length ≤ LA.length) := by show _ ≤ _; have := hln; omega
  clear hp hcap hln
  have HP4 : Hid (IntsAt w4 (.slice a0 n0 c0) (n0) z0 ∧ Held w4 (.slice aoA (LA).length capA) (LA) ∧ Held w4 (.slice aoB (normU uA).length capB) (normU uA) ∧ Below w.heap.size w w4) := ⟨(HP3.out.1).below' hb, (HP3.out.2.1).below hb, hheld, (HP3.out.2.2).trans (hb.mono (HP3.out.2.2).size)⟩
  clear hb hheld
  obtain ⟨xs, hxs, hex⟩ := opU_norm (us := uA) (n := cs.length) HUA.out.1.reads.ok HUA.out.1.fits HUA.out.1.small (by have := HNB.out; have := HUA.out.1.len; omega) HUA.out.1.bytes
  have HX : Hid (OpU (normU uA) xs cs.length ∧ Eqv xs uA) := ⟨hxs, hex⟩
  clear hxs hex
  go_wp2_with fail
  refine (normal_yes _ (normU uA) _ HP4.out.2.2.1.1 (by have := HNB.out; have := HUA.out.1.len; omega) (norm_nf _)).mono ?_
  rintro e w5 ⟨rfl, hb⟩
  have HP5 : Hid (IntsAt w5 (.slice a0 n0 c0) (n0) z0 ∧ Held w5 (.slice aoA (LA).length capA) (LA) ∧ Held w5 (.slice aoB (normU uA).length capB) (normU uA) ∧ Below w.heap.size w w5) := ⟨(HP4.out.1).below' hb, (HP4.out.2.1).below hb, (HP4.out.2.2.1).below hb, (HP4.out.2.2.2).trans (hb.mono (HP4.out.2.2.2).size)⟩
  clear hb
  go_wp2_with fail
  refine (Apply_ok _ LA uA cs _ HP5.out.2.1.1 HP5.out.2.1.2 HUA.out.1 HC.out.1 (by have := HC.out.2.2; omega)).mono ?_
  rintro e w6 ⟨rfl, hb⟩
  have HP6 : Hid (IntsAt w6 (.slice a0 n0 c0) (n0) z0 ∧ Held w6 (.slice aoA (LA).length capA) (LA) ∧ Held w6 (.slice aoB (normU uA).length capB) (normU uA) ∧ Below w.heap.size w w6) := ⟨(HP5.out.1).below' hb, (HP5.out.2.1).below hb, (HP5.out.2.2.1).below hb, (HP5.out.2.2.2).trans (hb.mono (HP5.out.2.2.2).size)⟩
  clear hb
  go_wp2_with fail
  refine (Apply_ok _ (normU uA) xs cs _ HP6.out.2.2.1.1 HP6.out.2.2.1.2 HX.out.1 HC.out.1 (by have := HC.out.2.2; omega)).mono ?_
  rintro e w7 ⟨rfl, hb⟩
  rw [HX.out.2.apply cs]
  have HP7 : Hid (IntsAt w7 (.slice a0 n0 c0) (n0) z0 ∧ Held w7 (.slice aoA (LA).length capA) (LA) ∧ Held w7 (.slice aoB (normU uA).length capB) (normU uA) ∧ Below w.heap.size w w7) := ⟨(HP6.out.1).below' hb, (HP6.out.2.1).below hb, (HP6.out.2.2.1).below hb, (HP6.out.2.2.2).trans (hb.mono (HP6.out.2.2.2).size)⟩
  clear hb
  go_wp2_with fail
  refine (HL.out _).mono ?_
  rintro e wq3 ⟨rfl, rfl⟩
  go_wp2_with fail
  refine (Normal_ok _ (normU uA) xs cs.length _ HP7.out.2.2.1.1 HP7.out.2.2.1.2 HX.out.1).mono ?_
  rintro e w8 ⟨vM, rfl, ⟨hp, hcap, hb⟩, hln⟩
  rw [HX.out.2.norm] at hp hln
  have hheld : Held w8 vM (normU uA) := ⟨hp, hcap⟩
  obtain ⟨aoM, capM, rfl⟩ := hheld.form
  have HNM : Hid ((normU uA).length ≤ LA.length) := by show _ ≤ _; have := hln; have := HNB.out; omega
  clear hp hcap hln
  have HP8 : Hid (IntsAt w8 (.slice a0 n0 c0) (n0) z0 ∧ Held w8 (.slice aoA (LA).length capA) (LA) ∧ Held w8 (.slice aoB (normU uA).length capB) (normU uA) ∧ Held w8 (.slice aoM (normU uA).length capM) (normU uA) ∧ Below w.heap.size w w8) := ⟨(HP7.out.1).below' hb, (HP7.out.2.1).below hb, (HP7.out.2.2.1).below hb, hheld, (HP7.out.2.2.2).trans (hb.mono (HP7.out.2.2.2).size)⟩
  clear hb hheld
  go_wp2_with fail
  refine (same_yes _ _ (normU uA) _ HP8.out.2.2.1.1 HP8.out.2.2.2.1.1 (by have := HNB.out; have := HUA.out.1.len; omega)).mono ?_
  rintro e w9 ⟨rfl, hb⟩
  have HP9 : Hid (IntsAt w9 (.slice a0 n0 c0) (n0) z0 ∧ Held w9 (.slice aoA (LA).length capA) (LA) ∧ Held w9 (.slice aoB (normU uA).length capB) (normU uA) ∧ Held w9 (.slice aoM (normU uA).length capM) (normU uA) ∧ Below w.heap.size w w9) := ⟨(HP8.out.1).below' hb, (HP8.out.2.1).below hb, (HP8.out.2.2.1).below hb, (HP8.out.2.2.2.1).below hb, (HP8.out.2.2.2.2).trans (hb.mono (HP8.out.2.2.2.2).size)⟩
  clear hb
  go_wp2
  go_ret
  exact ⟨by simp, HP9.out.2.2.2.2⟩

end Go.Proofs.Ytgoaihpaajchaaa
