/-
  quillkeep.Inverted.
-/
import Derived.Test.YtgoaihpaajchaaaLaw1
namespace Go.Proofs.Ytgoaihpaajchaaa
open Go.RowKit

/-- what a made operation leaves of a made text. -/
theorem chars_of {cs ct : List (List UInt8)} {L : List Pt} {us : List Un} (hc : ∀ c ∈ cs, IsCh c) (hl : cs.flatten.length ≤ 4 * 30) (hu : OpU L us cs.length) (hb : bytesU us ≤ 8 * L.length) (hlen : L.length ≤ 10) (ht : ct = applyU us cs) :
    ct = applyU us cs ∧ (∀ c ∈ ct, IsCh c) ∧ ct.flatten.length ≤ 200 ∧ ct.length ≤ 200 ∧ ct.length + inU us = cs.length + outU us := by
  have h1 := applyU_ok us cs hu.reads.ok hc
  have h2 := applyU_bytes us cs
  have h3 := chars_len h1
  have h4 := applyU_length us cs hu.fits
  rw [← ht] at h1 h2 h3 h4
  exact ⟨ht, h1, by omega, by omega, h4⟩

theorem bytes_norm {us xs : List Un} (_ok : OkU us) (hr : Reads (normU us) xs) : bytesU xs ≤ bytesU us := by
  have h1 := norm_tlen (us.map Un.pt)
  have h2 : tlen (us.map Un.pt) = bytesU us := by
    clear h1 hr _ok
    induction us with
    | nil => rfl
    | cons u us ih => cases u <;> simp only [tlen, List.map_cons, List.sum_cons, bytesU, Un.pt, K, D, I, List.length_nil] at * <;> omega
  have h3 := hr.nums.2
  rw [← tlen_sum] at h3
  rw [← h3]
  show tlen (norm (us.map Un.pt)) ≤ _
  omega

set_option maxHeartbeats 2000000 in
theorem inverted_any (a0 a1 : Option Addr) (n0 c0 n1 c1 : Nat) (z0 z1 : Nat → Int) (w : World) (h0 : IntsAt w (.slice a0 n0 c0) n0 z0) (h1 : IntsAt w (.slice a1 n1 c1) n1 z1) (k0 : CapOk (.slice a0 n0 c0)) :
    Calls Try.prog 6 #[.slice a0 n0 c0, .slice a1 n1 c1] w fun e w' => e = .returned (.bool true) ∧ Below w.heap.size w w' := by
  have HP0 : Hid (IntsAt w (.slice a0 n0 c0) (n0) z0 ∧ CapOk (.slice a0 n0 c0) ∧ IntsAt w (.slice a1 n1 c1) (n1) z1 ∧ Below w.heap.size w w) := ⟨h0 , k0 , h1, Below.refl _ _⟩
  clear h0 h1 k0
  go_enter Try.func6, Try.ntmps6
  go_wp2_with fail
  refine (works_any _).mono ?_
  rintro e w1 ⟨rfl, hb⟩
  have HP1 : Hid (IntsAt w1 (.slice a0 n0 c0) (n0) z0 ∧ CapOk (.slice a0 n0 c0) ∧ IntsAt w1 (.slice a1 n1 c1) (n1) z1 ∧ Below w.heap.size w w1) := ⟨(HP0.out.1).below' hb, HP0.out.2.1, (HP0.out.2.2.1).below' hb, (HP0.out.2.2.2).trans (hb.mono (HP0.out.2.2.2).size)⟩
  clear hb
  go_wp2_with fail
  refine (text_any _ n1 30 z1 _ (HP1.out.2.2.1) (by omega)).mono ?_
  rintro e w2 ⟨cs, rfl, hch, hcl, hfl, hb⟩
  have HC : Hid ((∀ c ∈ cs, IsCh c) ∧ cs.length ≤ 30 ∧ cs.flatten.length ≤ 4 * 30) := ⟨hch, hcl, hfl⟩
  have HL : Hid (∀ x, Calls Try.prog 10 #[.string (bs cs.flatten)] x fun e w' => e = .returned (.int .i64 cs.length) ∧ w' = x) := length_chars HC.out.1 (by have := HC.out.2.2; omega)
  clear hch hcl hfl
  have HP2 : Hid (IntsAt w2 (.slice a0 n0 c0) (n0) z0 ∧ CapOk (.slice a0 n0 c0) ∧ Below w.heap.size w w2) := ⟨(HP1.out.1).below' hb, HP1.out.2.1, (HP1.out.2.2.2).trans (hb.mono (HP1.out.2.2.2).size)⟩
  clear hb
  go_wp2_with fail
  refine (short_any _ n0 z0 _ (HP2.out.1) (HP2.out.2.1)).mono ?_
  rintro e wq1 ⟨vS, rfl, hz, rfl⟩
  obtain ⟨aSA, cSA, rfl, _⟩ := id hz
  have HP3 : Hid (IntsAt wq1 (.slice aSA (min n0 10) cSA) (min n0 10) z0 ∧ Below w.heap.size w wq1) := ⟨hz, HP2.out.2.2⟩
  clear hz
  go_wp2_with fail
  refine (HL.out _).mono ?_
  rintro e wq2 ⟨rfl, rfl⟩
  go_wp2_with fail
  refine (made_ok _ (min n0 10) cs.length z0 _ (HP3.out.1) (by have := HC.out.2.1; omega)).mono ?_
  rintro e w3 ⟨vA, LA, mA, rfl, hp, hcap, hll, hmade, hb⟩
  obtain ⟨uA, hu, hub⟩ := hmade.opU hll.1 (by have := HC.out.2.1; omega)
  have hheld : Held w3 vA LA := ⟨hp, hcap⟩
  obtain ⟨aoA, capA, rfl⟩ := hheld.form
  have HUA : Hid (OpU LA uA cs.length ∧ bytesU uA ≤ 8 * LA.length ∧ LA.length ≤ 10) := ⟨hu, hub, by omega⟩
  clear hp hcap hll hmade hu hub
  have HP4 : Hid (IntsAt w3 (.slice aSA (min n0 10) cSA) (min n0 10) z0 ∧ Held w3 (.slice aoA (LA).length capA) (LA) ∧ Below w.heap.size w w3) := ⟨(HP3.out.1).below' hb, hheld, (HP3.out.2).trans (hb.mono (HP3.out.2).size)⟩
  clear hb hheld
  obtain ⟨ct, hct⟩ : ∃ ct, ct = applyU uA cs := ⟨_, rfl⟩
  have HCT : Hid (ct = applyU uA cs ∧ (∀ c ∈ ct, IsCh c) ∧ ct.flatten.length ≤ 200 ∧ ct.length ≤ 200 ∧ ct.length + inU uA = cs.length + outU uA) := chars_of HC.out.1 HC.out.2.2 HUA.out.1 HUA.out.2.1 HUA.out.2.2 hct
  clear hct
  go_wp2_with fail
  refine (Invert_ok _ LA uA cs _ HP4.out.2.1.1 HP4.out.2.1.2 HUA.out.1 HC.out.1 (by have := HC.out.2.2; omega)).mono ?_
  rintro e w4 ⟨vB, rfl, ⟨hp, hcap, hb⟩, hln⟩
  have hheld : Held w4 vB (normU (invU uA cs)) := ⟨hp, hcap⟩
  obtain ⟨aoB, capB, rfl⟩ := hheld.form
  have HNB : Hid ((normU (invU uA cs)).length ≤ 10) := by show _ ≤ _; have := hln; have h9 := HUA.out.2.2; omega
  clear hp hcap hln
  have HP5 : Hid (IntsAt w4 (.slice aSA (min n0 10) cSA) (min n0 10) z0 ∧ Held w4 (.slice aoA (LA).length capA) (LA) ∧ Held w4 (.slice aoB (normU (invU uA cs)).length capB) (normU (invU uA cs)) ∧ Below w.heap.size w w4) := ⟨(HP4.out.1).below' hb, (HP4.out.2.1).below hb, hheld, (HP4.out.2.2).trans (hb.mono (HP4.out.2.2).size)⟩
  clear hb hheld
  obtain ⟨xb, hxs, hex⟩ := opU_norm (us := invU uA cs) (n := ct.length) (invU_ok _ _ HC.out.1) (by have h1 := invU_in uA cs; have h2 := HCT.out.2.2.2.2; have h3 := HUA.out.1.fits; omega) (by have := HCT.out.2.2.2.1; omega) (by have := HNB.out; omega) (by have h1 := invU_bytes uA cs; have h2 := HC.out.2.2; omega)
  have HXB : Hid (OpU (normU (invU uA cs)) xb (ct.length) ∧ Eqv xb (invU uA cs)) := ⟨hxs, hex⟩
  clear hxs hex
  have HBA : Hid (applyU xb ct = cs) := by show _ = _; rw [HXB.out.2.apply, HCT.out.1, invU_back _ _ HUA.out.1.fits]
  go_wp2_with fail
  refine (normal_yes _ (normU (invU uA cs)) _ HP5.out.2.2.1.1 (by have := HNB.out; omega) (norm_nf _)).mono ?_
  rintro e w5 ⟨rfl, hb⟩
  have HP6 : Hid (IntsAt w5 (.slice aSA (min n0 10) cSA) (min n0 10) z0 ∧ Held w5 (.slice aoA (LA).length capA) (LA) ∧ Held w5 (.slice aoB (normU (invU uA cs)).length capB) (normU (invU uA cs)) ∧ Below w.heap.size w w5) := ⟨(HP5.out.1).below' hb, (HP5.out.2.1).below hb, (HP5.out.2.2.1).below hb, (HP5.out.2.2.2).trans (hb.mono (HP5.out.2.2.2).size)⟩
  clear hb
  go_wp2_with fail
  refine (Apply_ok _ LA uA cs _ HP6.out.2.1.1 HP6.out.2.1.2 HUA.out.1 HC.out.1 (by have := HC.out.2.2; omega)).mono ?_
  rintro e w6 ⟨rfl, hb⟩
  rw [← HCT.out.1]
  have HP7 : Hid (IntsAt w6 (.slice aSA (min n0 10) cSA) (min n0 10) z0 ∧ Held w6 (.slice aoA (LA).length capA) (LA) ∧ Held w6 (.slice aoB (normU (invU uA cs)).length capB) (normU (invU uA cs)) ∧ Below w.heap.size w w6) := ⟨(HP6.out.1).below' hb, (HP6.out.2.1).below hb, (HP6.out.2.2.1).below hb, (HP6.out.2.2.2).trans (hb.mono (HP6.out.2.2.2).size)⟩
  clear hb
  go_wp2_with fail
  refine (Apply_ok _ (normU (invU uA cs)) xb ct _ HP7.out.2.2.1.1 HP7.out.2.2.1.2 HXB.out.1 HCT.out.2.1 (by have := HCT.out.2.2.1; omega)).mono ?_
  rintro e w7 ⟨rfl, hb⟩
  rw [HBA.out]
  have HP8 : Hid (IntsAt w7 (.slice aSA (min n0 10) cSA) (min n0 10) z0 ∧ Held w7 (.slice aoA (LA).length capA) (LA) ∧ Held w7 (.slice aoB (normU (invU uA cs)).length capB) (normU (invU uA cs)) ∧ Below w.heap.size w w7) := ⟨(HP7.out.1).below' hb, (HP7.out.2.1).below hb, (HP7.out.2.2.1).below hb, (HP7.out.2.2.2).trans (hb.mono (HP7.out.2.2.2).size)⟩
  clear hb
  go_wp2_with fail
  refine (Invert_ok _ (normU (invU uA cs)) xb ct _ HP8.out.2.2.1.1 HP8.out.2.2.1.2 HXB.out.1 HCT.out.2.1 (by have := HCT.out.2.2.1; omega)).mono ?_
  rintro e w8 ⟨vG, rfl, ⟨hp, hcap, hb⟩, hln⟩
  have hheld : Held w8 vG (normU (invU xb ct)) := ⟨hp, hcap⟩
  obtain ⟨aoG, capG, rfl⟩ := hheld.form
  have HNG : Hid ((normU (invU xb ct)).length ≤ 10) := by show _ ≤ _; have := hln; have h9 := HNB.out; omega
  clear hp hcap hln
  have HP9 : Hid (IntsAt w8 (.slice aSA (min n0 10) cSA) (min n0 10) z0 ∧ Held w8 (.slice aoA (LA).length capA) (LA) ∧ Held w8 (.slice aoB (normU (invU uA cs)).length capB) (normU (invU uA cs)) ∧ Held w8 (.slice aoG (normU (invU xb ct)).length capG) (normU (invU xb ct)) ∧ Below w.heap.size w w8) := ⟨(HP8.out.1).below' hb, (HP8.out.2.1).below hb, (HP8.out.2.2.1).below hb, hheld, (HP8.out.2.2.2).trans (hb.mono (HP8.out.2.2.2).size)⟩
  clear hb hheld
  obtain ⟨xg, hxs, hex⟩ := opU_norm (us := invU xb ct) (n := cs.length) (invU_ok _ _ HCT.out.2.1) (by have h1 := invU_in xb ct; have h2 := applyU_length xb ct HXB.out.1.fits; rw [HBA.out] at h2; have h3 := HXB.out.1.fits; omega) (by have := HC.out.2.1; omega) (by have := HNG.out; omega) (by have h1 := invU_bytes xb ct; have h2 := HCT.out.2.2.1; omega)
  have HXG : Hid (OpU (normU (invU xb ct)) xg (cs.length) ∧ Eqv xg (invU xb ct)) := ⟨hxs, hex⟩
  clear hxs hex
  go_wp2_with fail
  refine (Apply_ok _ (normU (invU xb ct)) xg cs _ HP9.out.2.2.2.1.1 HP9.out.2.2.2.1.2 HXG.out.1 HC.out.1 (by have := HC.out.2.2; omega)).mono ?_
  rintro e w9 ⟨rfl, hb⟩
  have hgo : applyU xg cs = ct := by rw [HXG.out.2.apply]; have h1 := invU_back xb ct HXB.out.1.fits; rw [HBA.out] at h1; exact h1
  rw [hgo]
  clear hgo
  have HP10 : Hid (IntsAt w9 (.slice aSA (min n0 10) cSA) (min n0 10) z0 ∧ Held w9 (.slice aoA (LA).length capA) (LA) ∧ Held w9 (.slice aoB (normU (invU uA cs)).length capB) (normU (invU uA cs)) ∧ Held w9 (.slice aoG (normU (invU xb ct)).length capG) (normU (invU xb ct)) ∧ Below w.heap.size w w9) := ⟨(HP9.out.1).below' hb, (HP9.out.2.1).below hb, (HP9.out.2.2.1).below hb, (HP9.out.2.2.2.1).below hb, (HP9.out.2.2.2.2).trans (hb.mono (HP9.out.2.2.2.2).size)⟩
  clear hb
  go_wp2_with fail
  refine (HL.out _).mono ?_
  rintro e wq3 ⟨rfl, rfl⟩
  go_wp2_with fail
  refine (Compose_ok _ _ LA (normU (invU uA cs)) uA xb cs.length ct.length _ HP10.out.2.1.1 HP10.out.2.1.2 HUA.out.1 HP10.out.2.2.1.1 HP10.out.2.2.1.2 HXB.out.1 HCT.out.2.2.2.2).mono ?_
  rintro e w10 ⟨vN, rfl, ⟨hp, hcap, hb⟩, hln⟩
  have hheld : Held w10 vN (normU (compU uA xb)) := ⟨hp, hcap⟩
  obtain ⟨aoN, capN, rfl⟩ := hheld.form
  have HNN : Hid ((normU (compU uA xb)).length ≤ 20) := by show _ ≤ _; have := hln; have h9 := HNB.out; have h8 := HUA.out.2.2; omega
  clear hp hcap hln
  have HP11 : Hid (IntsAt w10 (.slice aSA (min n0 10) cSA) (min n0 10) z0 ∧ Held w10 (.slice aoA (LA).length capA) (LA) ∧ Held w10 (.slice aoB (normU (invU uA cs)).length capB) (normU (invU uA cs)) ∧ Held w10 (.slice aoG (normU (invU xb ct)).length capG) (normU (invU xb ct)) ∧ Held w10 (.slice aoN (normU (compU uA xb)).length capN) (normU (compU uA xb)) ∧ Below w.heap.size w w10) := ⟨(HP10.out.1).below' hb, (HP10.out.2.1).below hb, (HP10.out.2.2.1).below hb, (HP10.out.2.2.2.1).below hb, hheld, (HP10.out.2.2.2.2).trans (hb.mono (HP10.out.2.2.2.2).size)⟩
  clear hb hheld
  obtain ⟨xn, hxs, hex⟩ := opU_norm (us := compU uA xb) (n := cs.length) (compU_ok _ _ HUA.out.1.reads.ok HXB.out.1.reads.ok) (compU_in _ _ _ HUA.out.1.fits (by have h1 := HXB.out.1.fits; have h2 := HCT.out.2.2.2.2; omega)) (by have := HC.out.2.1; omega) (by have := HNN.out; omega) (by have h1 := compU_bytes uA xb; have h2 := HUA.out.1.bytes; have h3 := bytes_norm (invU_ok uA cs HC.out.1) HXB.out.1.reads; have h4 := invU_bytes uA cs; have h5 := HC.out.2.2; have h6 := HUA.out.2; omega)
  have HXN : Hid (OpU (normU (compU uA xb)) xn (cs.length) ∧ Eqv xn (compU uA xb)) := ⟨hxs, hex⟩
  clear hxs hex
  go_wp2_with fail
  refine (Apply_ok _ (normU (compU uA xb)) xn cs _ HP11.out.2.2.2.2.1.1 HP11.out.2.2.2.2.1.2 HXN.out.1 HC.out.1 (by have := HC.out.2.2; omega)).mono ?_
  rintro e w11 ⟨rfl, hb⟩
  have hgo : applyU xn cs = cs := by rw [HXN.out.2.apply, compU_apply _ _ _ HUA.out.1.fits, ← HCT.out.1, HBA.out]
  rw [hgo]
  clear hgo
  have HP12 : Hid (IntsAt w11 (.slice aSA (min n0 10) cSA) (min n0 10) z0 ∧ Held w11 (.slice aoA (LA).length capA) (LA) ∧ Held w11 (.slice aoB (normU (invU uA cs)).length capB) (normU (invU uA cs)) ∧ Held w11 (.slice aoG (normU (invU xb ct)).length capG) (normU (invU xb ct)) ∧ Held w11 (.slice aoN (normU (compU uA xb)).length capN) (normU (compU uA xb)) ∧ Below w.heap.size w w11) := ⟨(HP11.out.1).below' hb, (HP11.out.2.1).below hb, (HP11.out.2.2.1).below hb, (HP11.out.2.2.2.1).below hb, (HP11.out.2.2.2.2.1).below hb, (HP11.out.2.2.2.2.2).trans (hb.mono (HP11.out.2.2.2.2.2).size)⟩
  clear hb
  go_wp2
  go_ret
  exact ⟨by simp, HP12.out.2.2.2.2.2⟩

end Go.Proofs.Ytgoaihpaajchaaa
