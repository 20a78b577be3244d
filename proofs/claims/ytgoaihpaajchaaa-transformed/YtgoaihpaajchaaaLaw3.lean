/-
  quillkeep.Composed.
-/
import Derived.Test.YtgoaihpaajchaaaLaw2
namespace Go.Proofs.Ytgoaihpaajchaaa
open Go.RowKit

/-- what a made operation leaves of a text. -/
theorem chars_by {B : Nat} {cs ct : List (List UInt8)} {L : List Pt} {us : List Un} (hc : ∀ c ∈ cs, IsCh c) (hl : cs.flatten.length ≤ B) (hu : OpU L us cs.length) (hb : bytesU us ≤ 8 * L.length) (hlen : L.length ≤ 10) (ht : ct = applyU us cs) :
    ct = applyU us cs ∧ (∀ c ∈ ct, IsCh c) ∧ ct.flatten.length ≤ B + 80 ∧ ct.length ≤ B + 80 ∧ ct.length + inU us = cs.length + outU us := by
  have h1 := applyU_ok us cs hu.reads.ok hc
  have h2 := applyU_bytes us cs
  have h3 := chars_len h1
  have h4 := applyU_length us cs hu.fits
  rw [← ht] at h1 h2 h3 h4
  exact ⟨ht, h1, by omega, by omega, h4⟩

set_option maxHeartbeats 4000000 in
theorem composed_any (a0 a1 a2 a3 : Option Addr) (n0 c0 n1 c1 n2 c2 n3 c3 : Nat) (z0 z1 z2 z3 : Nat → Int) (w : World) (h0 : IntsAt w (.slice a0 n0 c0) n0 z0) (h1 : IntsAt w (.slice a1 n1 c1) n1 z1) (h2 : IntsAt w (.slice a2 n2 c2) n2 z2) (h3 : IntsAt w (.slice a3 n3 c3) n3 z3) (k0 : CapOk (.slice a0 n0 c0)) (k1 : CapOk (.slice a1 n1 c1)) (k2 : CapOk (.slice a2 n2 c2)) :
    Calls Try.prog 4 #[.slice a0 n0 c0, .slice a1 n1 c1, .slice a2 n2 c2, .slice a3 n3 c3] w fun e w' => e = .returned (.bool true) ∧ Below w.heap.size w w' := by
  have HP0 : Hid (IntsAt w (.slice a0 n0 c0) (n0) z0 ∧ CapOk (.slice a0 n0 c0) ∧ IntsAt w (.slice a1 n1 c1) (n1) z1 ∧ CapOk (.slice a1 n1 c1) ∧ IntsAt w (.slice a2 n2 c2) (n2) z2 ∧ CapOk (.slice a2 n2 c2) ∧ IntsAt w (.slice a3 n3 c3) (n3) z3 ∧ Below w.heap.size w w) := ⟨h0 , k0 , h1 , k1 , h2 , k2 , h3, Below.refl _ _⟩
  clear h0 h1 h2 h3 k0 k1 k2
  go_enter Try.func4, Try.ntmps4
  go_wp2_with fail
  refine (works_any _).mono ?_
  rintro e w1 ⟨rfl, hb⟩
  have HP1 : Hid (IntsAt w1 (.slice a0 n0 c0) (n0) z0 ∧ CapOk (.slice a0 n0 c0) ∧ IntsAt w1 (.slice a1 n1 c1) (n1) z1 ∧ CapOk (.slice a1 n1 c1) ∧ IntsAt w1 (.slice a2 n2 c2) (n2) z2 ∧ CapOk (.slice a2 n2 c2) ∧ IntsAt w1 (.slice a3 n3 c3) (n3) z3 ∧ Below w.heap.size w w1) := ⟨(HP0.out.1).below' hb, HP0.out.2.1, (HP0.out.2.2.1).below' hb, HP0.out.2.2.2.1, (HP0.out.2.2.2.2.1).below' hb, HP0.out.2.2.2.2.2.1, (HP0.out.2.2.2.2.2.2.1).below' hb, (HP0.out.2.2.2.2.2.2.2).trans (hb.mono (HP0.out.2.2.2.2.2.2.2).size)⟩
  clear hb
  go_wp2_with fail
  refine (text_any _ n3 30 z3 _ (HP1.out.2.2.2.2.2.2.1) (by omega)).mono ?_
  rintro e w2 ⟨cs, rfl, hch, hcl, hfl, hb⟩
  have HC : Hid ((∀ c ∈ cs, IsCh c) ∧ cs.length ≤ 30 ∧ cs.flatten.length ≤ 4 * 30) := ⟨hch, hcl, hfl⟩
  have HL : Hid (∀ x, Calls Try.prog 10 #[.string (bs cs.flatten)] x fun e w' => e = .returned (.int .i64 cs.length) ∧ w' = x) := length_chars HC.out.1 (by have := HC.out.2.2; omega)
  clear hch hcl hfl
  have HP2 : Hid (IntsAt w2 (.slice a0 n0 c0) (n0) z0 ∧ CapOk (.slice a0 n0 c0) ∧ IntsAt w2 (.slice a1 n1 c1) (n1) z1 ∧ CapOk (.slice a1 n1 c1) ∧ IntsAt w2 (.slice a2 n2 c2) (n2) z2 ∧ CapOk (.slice a2 n2 c2) ∧ Below w.heap.size w w2) := ⟨(HP1.out.1).below' hb, HP1.out.2.1, (HP1.out.2.2.1).below' hb, HP1.out.2.2.2.1, (HP1.out.2.2.2.2.1).below' hb, HP1.out.2.2.2.2.2.1, (HP1.out.2.2.2.2.2.2.2).trans (hb.mono (HP1.out.2.2.2.2.2.2.2).size)⟩
  clear hb
  go_wp2_with fail
  refine (HL.out _).mono ?_
  rintro e wq1 ⟨rfl, rfl⟩
  go_wp2_with fail
  refine (short_any _ n0 z0 _ (HP2.out.1) (HP2.out.2.1)).mono ?_
  rintro e wq2 ⟨vS, rfl, hz, rfl⟩
  obtain ⟨aSA, cSA, rfl, _⟩ := id hz
  have HP3 : Hid (IntsAt wq2 (.slice a1 n1 c1) (n1) z1 ∧ CapOk (.slice a1 n1 c1) ∧ IntsAt wq2 (.slice a2 n2 c2) (n2) z2 ∧ CapOk (.slice a2 n2 c2) ∧ IntsAt wq2 (.slice aSA (min n0 10) cSA) (min n0 10) z0 ∧ Below w.heap.size w wq2) := ⟨HP2.out.2.2.1, HP2.out.2.2.2.1, HP2.out.2.2.2.2.1, HP2.out.2.2.2.2.2.1, hz, HP2.out.2.2.2.2.2.2⟩
  clear hz
  go_wp2_with fail
  refine (made_ok _ (min n0 10) cs.length z0 _ (HP3.out.2.2.2.2.1) (by have := HC.out.2.1; omega)).mono ?_
  rintro e w3 ⟨vA, LA, mA, rfl, hp, hcap, hll, hmade, hb⟩
  obtain ⟨uA, hu, hub⟩ := hmade.opU hll.1 (by have := HC.out.2.1; omega)
  have hheld : Held w3 vA LA := ⟨hp, hcap⟩
  obtain ⟨aoA, capA, rfl⟩ := hheld.form
  have HUA : Hid (OpU LA uA cs.length ∧ bytesU uA ≤ 8 * LA.length ∧ LA.length ≤ 10) := ⟨hu, hub, by omega⟩
  clear hp hcap hll hmade hu hub
  have HP4 : Hid (IntsAt w3 (.slice a1 n1 c1) (n1) z1 ∧ CapOk (.slice a1 n1 c1) ∧ IntsAt w3 (.slice a2 n2 c2) (n2) z2 ∧ CapOk (.slice a2 n2 c2) ∧ IntsAt w3 (.slice aSA (min n0 10) cSA) (min n0 10) z0 ∧ Held w3 (.slice aoA (LA).length capA) (LA) ∧ Below w.heap.size w w3) := ⟨(HP3.out.1).below' hb, HP3.out.2.1, (HP3.out.2.2.1).below' hb, HP3.out.2.2.2.1, (HP3.out.2.2.2.2.1).below' hb, hheld, (HP3.out.2.2.2.2.2).trans (hb.mono (HP3.out.2.2.2.2.2).size)⟩
  clear hb hheld
  obtain ⟨ct, hct⟩ : ∃ xx, xx = applyU uA cs := ⟨_, rfl⟩
  have Hct : Hid (ct = applyU uA cs ∧ (∀ c ∈ ct, IsCh c) ∧ ct.flatten.length ≤ 200 ∧ ct.length ≤ 200 ∧ ct.length + inU uA = cs.length + outU uA) := chars_by (B := 120) HC.out.1 HC.out.2.2 HUA.out.1 HUA.out.2.1 HUA.out.2.2 hct
  have HLct : Hid (∀ x, Calls Try.prog 10 #[.string (bs ct.flatten)] x fun e w' => e = .returned (.int .i64 ct.length) ∧ w' = x) := length_chars Hct.out.2.1 (by have := Hct.out.2.2.1; omega)
  clear hct
  go_wp2_with fail
  refine (Apply_ok _ LA uA cs _ HP4.out.2.2.2.2.2.1.1 HP4.out.2.2.2.2.2.1.2 HUA.out.1 HC.out.1 (by have := HC.out.2.2; omega)).mono ?_
  rintro e w4 ⟨rfl, hb⟩
  rw [← Hct.out.1]
  have HP5 : Hid (IntsAt w4 (.slice a1 n1 c1) (n1) z1 ∧ CapOk (.slice a1 n1 c1) ∧ IntsAt w4 (.slice a2 n2 c2) (n2) z2 ∧ CapOk (.slice a2 n2 c2) ∧ IntsAt w4 (.slice aSA (min n0 10) cSA) (min n0 10) z0 ∧ Held w4 (.slice aoA (LA).length capA) (LA) ∧ Below w.heap.size w w4) := ⟨(HP4.out.1).below' hb, HP4.out.2.1, (HP4.out.2.2.1).below' hb, HP4.out.2.2.2.1, (HP4.out.2.2.2.2.1).below' hb, (HP4.out.2.2.2.2.2.1).below hb, (HP4.out.2.2.2.2.2.2).trans (hb.mono (HP4.out.2.2.2.2.2.2).size)⟩
  clear hb
  go_wp2_with fail
  refine (short_any _ n1 z1 _ (HP5.out.1) (HP5.out.2.1)).mono ?_
  rintro e wq3 ⟨vS, rfl, hz, rfl⟩
  obtain ⟨aSB, cSB, rfl, _⟩ := id hz
  have HP6 : Hid (IntsAt wq3 (.slice a2 n2 c2) (n2) z2 ∧ CapOk (.slice a2 n2 c2) ∧ IntsAt wq3 (.slice aSA (min n0 10) cSA) (min n0 10) z0 ∧ Held wq3 (.slice aoA (LA).length capA) (LA) ∧ IntsAt wq3 (.slice aSB (min n1 10) cSB) (min n1 10) z1 ∧ Below w.heap.size w wq3) := ⟨HP5.out.2.2.1, HP5.out.2.2.2.1, HP5.out.2.2.2.2.1, HP5.out.2.2.2.2.2.1, hz, HP5.out.2.2.2.2.2.2⟩
  clear hz
  go_wp2_with fail
  refine (HLct.out _).mono ?_
  rintro e wq4 ⟨rfl, rfl⟩
  go_wp2_with fail
  refine (made_ok _ (min n1 10) ct.length z1 _ (HP6.out.2.2.2.2.1) (by have := Hct.out.2.2.2.1; omega)).mono ?_
  rintro e w5 ⟨vB, LB, mB, rfl, hp, hcap, hll, hmade, hb⟩
  obtain ⟨uB, hu, hub⟩ := hmade.opU hll.1 (by have := Hct.out.2.2.2.1; omega)
  have hheld : Held w5 vB LB := ⟨hp, hcap⟩
  obtain ⟨aoB, capB, rfl⟩ := hheld.form
  have HUB : Hid (OpU LB uB ct.length ∧ bytesU uB ≤ 8 * LB.length ∧ LB.length ≤ 10) := ⟨hu, hub, by omega⟩
  clear hp hcap hll hmade hu hub
  have HP7 : Hid (IntsAt w5 (.slice a2 n2 c2) (n2) z2 ∧ CapOk (.slice a2 n2 c2) ∧ IntsAt w5 (.slice aSA (min n0 10) cSA) (min n0 10) z0 ∧ Held w5 (.slice aoA (LA).length capA) (LA) ∧ IntsAt w5 (.slice aSB (min n1 10) cSB) (min n1 10) z1 ∧ Held w5 (.slice aoB (LB).length capB) (LB) ∧ Below w.heap.size w w5) := ⟨(HP6.out.1).below' hb, HP6.out.2.1, (HP6.out.2.2.1).below' hb, (HP6.out.2.2.2.1).below hb, (HP6.out.2.2.2.2.1).below' hb, hheld, (HP6.out.2.2.2.2.2).trans (hb.mono (HP6.out.2.2.2.2.2).size)⟩
  clear hb hheld
  obtain ⟨cu, hct⟩ : ∃ xx, xx = applyU uB ct := ⟨_, rfl⟩
  have Hcu : Hid (cu = applyU uB ct ∧ (∀ c ∈ cu, IsCh c) ∧ cu.flatten.length ≤ 280 ∧ cu.length ≤ 280 ∧ cu.length + inU uB = ct.length + outU uB) := chars_by (B := 200) Hct.out.2.1 Hct.out.2.2.1 HUB.out.1 HUB.out.2.1 HUB.out.2.2 hct
  have HLcu : Hid (∀ x, Calls Try.prog 10 #[.string (bs cu.flatten)] x fun e w' => e = .returned (.int .i64 cu.length) ∧ w' = x) := length_chars Hcu.out.2.1 (by have := Hcu.out.2.2.1; omega)
  clear hct
  go_wp2_with fail
  refine (Apply_ok _ LB uB ct _ HP7.out.2.2.2.2.2.1.1 HP7.out.2.2.2.2.2.1.2 HUB.out.1 Hct.out.2.1 (by have := Hct.out.2.2.1; omega)).mono ?_
  rintro e w6 ⟨rfl, hb⟩
  rw [← Hcu.out.1]
  have HP8 : Hid (IntsAt w6 (.slice a2 n2 c2) (n2) z2 ∧ CapOk (.slice a2 n2 c2) ∧ IntsAt w6 (.slice aSA (min n0 10) cSA) (min n0 10) z0 ∧ Held w6 (.slice aoA (LA).length capA) (LA) ∧ IntsAt w6 (.slice aSB (min n1 10) cSB) (min n1 10) z1 ∧ Held w6 (.slice aoB (LB).length capB) (LB) ∧ Below w.heap.size w w6) := ⟨(HP7.out.1).below' hb, HP7.out.2.1, (HP7.out.2.2.1).below' hb, (HP7.out.2.2.2.1).below hb, (HP7.out.2.2.2.2.1).below' hb, (HP7.out.2.2.2.2.2.1).below hb, (HP7.out.2.2.2.2.2.2).trans (hb.mono (HP7.out.2.2.2.2.2.2).size)⟩
  clear hb
  go_wp2_with fail
  refine (short_any _ n2 z2 _ (HP8.out.1) (HP8.out.2.1)).mono ?_
  rintro e wq5 ⟨vS, rfl, hz, rfl⟩
  obtain ⟨aSC, cSC, rfl, _⟩ := id hz
  have HP9 : Hid (IntsAt wq5 (.slice aSA (min n0 10) cSA) (min n0 10) z0 ∧ Held wq5 (.slice aoA (LA).length capA) (LA) ∧ IntsAt wq5 (.slice aSB (min n1 10) cSB) (min n1 10) z1 ∧ Held wq5 (.slice aoB (LB).length capB) (LB) ∧ IntsAt wq5 (.slice aSC (min n2 10) cSC) (min n2 10) z2 ∧ Below w.heap.size w wq5) := ⟨HP8.out.2.2.1, HP8.out.2.2.2.1, HP8.out.2.2.2.2.1, HP8.out.2.2.2.2.2.1, hz, HP8.out.2.2.2.2.2.2⟩
  clear hz
  go_wp2_with fail
  refine (HLcu.out _).mono ?_
  rintro e wq6 ⟨rfl, rfl⟩
  go_wp2_with fail
  refine (made_ok _ (min n2 10) cu.length z2 _ (HP9.out.2.2.2.2.1) (by have := Hcu.out.2.2.2.1; omega)).mono ?_
  rintro e w7 ⟨vC, LC, mC, rfl, hp, hcap, hll, hmade, hb⟩
  obtain ⟨uC, hu, hub⟩ := hmade.opU hll.1 (by have := Hcu.out.2.2.2.1; omega)
  have hheld : Held w7 vC LC := ⟨hp, hcap⟩
  obtain ⟨aoC, capC, rfl⟩ := hheld.form
  have HUC : Hid (OpU LC uC cu.length ∧ bytesU uC ≤ 8 * LC.length ∧ LC.length ≤ 10) := ⟨hu, hub, by omega⟩
  clear hp hcap hll hmade hu hub
  have HP10 : Hid (IntsAt w7 (.slice aSA (min n0 10) cSA) (min n0 10) z0 ∧ Held w7 (.slice aoA (LA).length capA) (LA) ∧ IntsAt w7 (.slice aSB (min n1 10) cSB) (min n1 10) z1 ∧ Held w7 (.slice aoB (LB).length capB) (LB) ∧ IntsAt w7 (.slice aSC (min n2 10) cSC) (min n2 10) z2 ∧ Held w7 (.slice aoC (LC).length capC) (LC) ∧ Below w.heap.size w w7) := ⟨(HP9.out.1).below' hb, (HP9.out.2.1).below hb, (HP9.out.2.2.1).below' hb, (HP9.out.2.2.2.1).below hb, (HP9.out.2.2.2.2.1).below' hb, hheld, (HP9.out.2.2.2.2.2).trans (hb.mono (HP9.out.2.2.2.2.2).size)⟩
  clear hb hheld
  obtain ⟨cv, hct⟩ : ∃ xx, xx = applyU uC cu := ⟨_, rfl⟩
  have Hcv : Hid (cv = applyU uC cu ∧ (∀ c ∈ cv, IsCh c) ∧ cv.flatten.length ≤ 360 ∧ cv.length ≤ 360 ∧ cv.length + inU uC = cu.length + outU uC) := chars_by (B := 280) Hcu.out.2.1 Hcu.out.2.2.1 HUC.out.1 HUC.out.2.1 HUC.out.2.2 hct
  have HLcv : Hid (∀ x, Calls Try.prog 10 #[.string (bs cv.flatten)] x fun e w' => e = .returned (.int .i64 cv.length) ∧ w' = x) := length_chars Hcv.out.2.1 (by have := Hcv.out.2.2.1; omega)
  clear hct
  go_wp2_with fail
  refine (Apply_ok _ LC uC cu _ HP10.out.2.2.2.2.2.1.1 HP10.out.2.2.2.2.2.1.2 HUC.out.1 Hcu.out.2.1 (by have := Hcu.out.2.2.1; omega)).mono ?_
  rintro e w8 ⟨rfl, hb⟩
  rw [← Hcv.out.1]
  have HP11 : Hid (IntsAt w8 (.slice aSA (min n0 10) cSA) (min n0 10) z0 ∧ Held w8 (.slice aoA (LA).length capA) (LA) ∧ IntsAt w8 (.slice aSB (min n1 10) cSB) (min n1 10) z1 ∧ Held w8 (.slice aoB (LB).length capB) (LB) ∧ IntsAt w8 (.slice aSC (min n2 10) cSC) (min n2 10) z2 ∧ Held w8 (.slice aoC (LC).length capC) (LC) ∧ Below w.heap.size w w8) := ⟨(HP10.out.1).below' hb, (HP10.out.2.1).below hb, (HP10.out.2.2.1).below' hb, (HP10.out.2.2.2.1).below hb, (HP10.out.2.2.2.2.1).below' hb, (HP10.out.2.2.2.2.2.1).below hb, (HP10.out.2.2.2.2.2.2).trans (hb.mono (HP10.out.2.2.2.2.2.2).size)⟩
  clear hb
  have BuA : Hid (bytesU uA ≤ 80) := by show _ ≤ _; have h1 := HUA.out.2; omega
  have BuB : Hid (bytesU uB ≤ 80) := by show _ ≤ _; have h1 := HUB.out.2; omega
  have BuC : Hid (bytesU uC ≤ 80) := by show _ ≤ _; have h1 := HUC.out.2; omega
  go_wp2_with fail
  refine (Compose_ok _ _ (LA) (LB) uA uB cs.length ct.length _ HP11.out.2.1.1 HP11.out.2.1.2 HUA.out.1 HP11.out.2.2.2.1.1 HP11.out.2.2.2.1.2 HUB.out.1 (Hct.out.2.2.2.2)).mono ?_
  rintro e w9 ⟨vD, rfl, ⟨hp, hcap, hb⟩, hln⟩
  have hheld : Held w9 vD (normU (compU uA uB)) := ⟨hp, hcap⟩
  obtain ⟨aoD, capD, rfl⟩ := hheld.form
  have HND : Hid ((normU (compU uA uB)).length ≤ 20) := by show _ ≤ _; have := hln; have h9 := HUA.out.2.2; have h8 := HUB.out.2.2; omega
  clear hp hcap hln
  have HP12 : Hid (IntsAt w9 (.slice aSA (min n0 10) cSA) (min n0 10) z0 ∧ Held w9 (.slice aoA (LA).length capA) (LA) ∧ IntsAt w9 (.slice aSB (min n1 10) cSB) (min n1 10) z1 ∧ Held w9 (.slice aoB (LB).length capB) (LB) ∧ IntsAt w9 (.slice aSC (min n2 10) cSC) (min n2 10) z2 ∧ Held w9 (.slice aoC (LC).length capC) (LC) ∧ Held w9 (.slice aoD (normU (compU uA uB)).length capD) (normU (compU uA uB)) ∧ Below w.heap.size w w9) := ⟨(HP11.out.1).below' hb, (HP11.out.2.1).below hb, (HP11.out.2.2.1).below' hb, (HP11.out.2.2.2.1).below hb, (HP11.out.2.2.2.2.1).below' hb, (HP11.out.2.2.2.2.2.1).below hb, hheld, (HP11.out.2.2.2.2.2.2).trans (hb.mono (HP11.out.2.2.2.2.2.2).size)⟩
  clear hb hheld
  obtain ⟨xD, hxs, hex⟩ := opU_norm (us := compU uA uB) (n := cs.length) (compU_ok _ _ HUA.out.1.reads.ok HUB.out.1.reads.ok) (compU_in _ _ _ HUA.out.1.fits (by have h1 := HUB.out.1.fits; have h2 : ct.length + inU uA = cs.length + outU uA := Hct.out.2.2.2.2; omega)) (by have := HC.out.2.1; omega) (by have := HND.out; omega) (by have h1 := compU_bytes uA uB; have h2 := BuA.out; have h3 := BuB.out; omega)
  have HXD : Hid (OpU (normU (compU uA uB)) xD (cs.length) ∧ Eqv xD (compU uA uB)) := ⟨hxs, hex⟩
  clear hxs hex
  have BxD : Hid (bytesU xD ≤ 160) := by show _ ≤ _; have h0 := bytes_norm (compU_ok _ _ HUA.out.1.reads.ok HUB.out.1.reads.ok) HXD.out.1.reads; have h1 := compU_bytes uA uB; have h2 := BuA.out; have h3 := BuB.out; omega
  go_wp2_with fail
  refine (HLct.out _).mono ?_
  rintro e wq7 ⟨rfl, rfl⟩
  go_wp2_with fail
  refine (Compose_ok _ _ (LB) (LC) uB uC ct.length cu.length _ HP12.out.2.2.2.1.1 HP12.out.2.2.2.1.2 HUB.out.1 HP12.out.2.2.2.2.2.1.1 HP12.out.2.2.2.2.2.1.2 HUC.out.1 (Hcu.out.2.2.2.2)).mono ?_
  rintro e w10 ⟨vE, rfl, ⟨hp, hcap, hb⟩, hln⟩
  have hheld : Held w10 vE (normU (compU uB uC)) := ⟨hp, hcap⟩
  obtain ⟨aoE, capE, rfl⟩ := hheld.form
  have HNE : Hid ((normU (compU uB uC)).length ≤ 20) := by show _ ≤ _; have := hln; have h9 := HUB.out.2.2; have h8 := HUC.out.2.2; omega
  clear hp hcap hln
  have HP13 : Hid (IntsAt w10 (.slice aSA (min n0 10) cSA) (min n0 10) z0 ∧ Held w10 (.slice aoA (LA).length capA) (LA) ∧ IntsAt w10 (.slice aSB (min n1 10) cSB) (min n1 10) z1 ∧ Held w10 (.slice aoB (LB).length capB) (LB) ∧ IntsAt w10 (.slice aSC (min n2 10) cSC) (min n2 10) z2 ∧ Held w10 (.slice aoC (LC).length capC) (LC) ∧ Held w10 (.slice aoD (normU (compU uA uB)).length capD) (normU (compU uA uB)) ∧ Held w10 (.slice aoE (normU (compU uB uC)).length capE) (normU (compU uB uC)) ∧ Below w.heap.size w w10) := ⟨(HP12.out.1).below' hb, (HP12.out.2.1).below hb, (HP12.out.2.2.1).below' hb, (HP12.out.2.2.2.1).below hb, (HP12.out.2.2.2.2.1).below' hb, (HP12.out.2.2.2.2.2.1).below hb, (HP12.out.2.2.2.2.2.2.1).below hb, hheld, (HP12.out.2.2.2.2.2.2.2).trans (hb.mono (HP12.out.2.2.2.2.2.2.2).size)⟩
  clear hb hheld
  obtain ⟨xE, hxs, hex⟩ := opU_norm (us := compU uB uC) (n := ct.length) (compU_ok _ _ HUB.out.1.reads.ok HUC.out.1.reads.ok) (compU_in _ _ _ HUB.out.1.fits (by have h1 := HUC.out.1.fits; have h2 : cu.length + inU uB = ct.length + outU uB := Hcu.out.2.2.2.2; omega)) (by have := Hct.out.2.2.2.1; omega) (by have := HNE.out; omega) (by have h1 := compU_bytes uB uC; have h2 := BuB.out; have h3 := BuC.out; omega)
  have HXE : Hid (OpU (normU (compU uB uC)) xE (ct.length) ∧ Eqv xE (compU uB uC)) := ⟨hxs, hex⟩
  clear hxs hex
  have BxE : Hid (bytesU xE ≤ 160) := by show _ ≤ _; have h0 := bytes_norm (compU_ok _ _ HUB.out.1.reads.ok HUC.out.1.reads.ok) HXE.out.1.reads; have h1 := compU_bytes uB uC; have h2 := BuB.out; have h3 := BuC.out; omega
  have HAD : Hid (applyU xD cs = cu) := by show _ = _; rw [HXD.out.2.apply, compU_apply _ _ _ HUA.out.1.fits, ← Hct.out.1, ← Hcu.out.1]
  have HED : Hid (cu.length + inU xD = cs.length + outU xD) := by show _ = _; have h1 := applyU_length xD cs HXD.out.1.fits; rw [HAD.out] at h1; exact h1
  go_wp2_with fail
  refine (Apply_ok _ (normU (compU uA uB)) xD cs _ HP13.out.2.2.2.2.2.2.1.1 HP13.out.2.2.2.2.2.2.1.2 HXD.out.1 HC.out.1 (by have := HC.out.2.2; omega)).mono ?_
  rintro e w11 ⟨rfl, hb⟩
  rw [HAD.out]
  have HP14 : Hid (IntsAt w11 (.slice aSA (min n0 10) cSA) (min n0 10) z0 ∧ Held w11 (.slice aoA (LA).length capA) (LA) ∧ IntsAt w11 (.slice aSB (min n1 10) cSB) (min n1 10) z1 ∧ Held w11 (.slice aoB (LB).length capB) (LB) ∧ IntsAt w11 (.slice aSC (min n2 10) cSC) (min n2 10) z2 ∧ Held w11 (.slice aoC (LC).length capC) (LC) ∧ Held w11 (.slice aoD (normU (compU uA uB)).length capD) (normU (compU uA uB)) ∧ Held w11 (.slice aoE (normU (compU uB uC)).length capE) (normU (compU uB uC)) ∧ Below w.heap.size w w11) := ⟨(HP13.out.1).below' hb, (HP13.out.2.1).below hb, (HP13.out.2.2.1).below' hb, (HP13.out.2.2.2.1).below hb, (HP13.out.2.2.2.2.1).below' hb, (HP13.out.2.2.2.2.2.1).below hb, (HP13.out.2.2.2.2.2.2.1).below hb, (HP13.out.2.2.2.2.2.2.2.1).below hb, (HP13.out.2.2.2.2.2.2.2.2).trans (hb.mono (HP13.out.2.2.2.2.2.2.2.2).size)⟩
  clear hb
  go_wp2_with fail
  refine (Compose_ok _ _ (normU (compU uA uB)) (LC) xD uC cs.length cu.length _ HP14.out.2.2.2.2.2.2.1.1 HP14.out.2.2.2.2.2.2.1.2 HXD.out.1 HP14.out.2.2.2.2.2.1.1 HP14.out.2.2.2.2.2.1.2 HUC.out.1 (HED.out)).mono ?_
  rintro e w12 ⟨vF, rfl, ⟨hp, hcap, hb⟩, hln⟩
  have hheld : Held w12 vF (normU (compU xD uC)) := ⟨hp, hcap⟩
  obtain ⟨aoF, capF, rfl⟩ := hheld.form
  have HNF : Hid ((normU (compU xD uC)).length ≤ 30) := by show _ ≤ _; have := hln; have h9 := HND.out; have h8 := HUC.out.2.2; omega
  clear hp hcap hln
  have HP15 : Hid (IntsAt w12 (.slice aSA (min n0 10) cSA) (min n0 10) z0 ∧ Held w12 (.slice aoA (LA).length capA) (LA) ∧ IntsAt w12 (.slice aSB (min n1 10) cSB) (min n1 10) z1 ∧ Held w12 (.slice aoB (LB).length capB) (LB) ∧ IntsAt w12 (.slice aSC (min n2 10) cSC) (min n2 10) z2 ∧ Held w12 (.slice aoC (LC).length capC) (LC) ∧ Held w12 (.slice aoD (normU (compU uA uB)).length capD) (normU (compU uA uB)) ∧ Held w12 (.slice aoE (normU (compU uB uC)).length capE) (normU (compU uB uC)) ∧ Held w12 (.slice aoF (normU (compU xD uC)).length capF) (normU (compU xD uC)) ∧ Below w.heap.size w w12) := ⟨(HP14.out.1).below' hb, (HP14.out.2.1).below hb, (HP14.out.2.2.1).below' hb, (HP14.out.2.2.2.1).below hb, (HP14.out.2.2.2.2.1).below' hb, (HP14.out.2.2.2.2.2.1).below hb, (HP14.out.2.2.2.2.2.2.1).below hb, (HP14.out.2.2.2.2.2.2.2.1).below hb, hheld, (HP14.out.2.2.2.2.2.2.2.2).trans (hb.mono (HP14.out.2.2.2.2.2.2.2.2).size)⟩
  clear hb hheld
  obtain ⟨xF, hxs, hex⟩ := opU_norm (us := compU xD uC) (n := cs.length) (compU_ok _ _ HXD.out.1.reads.ok HUC.out.1.reads.ok) (compU_in _ _ _ HXD.out.1.fits (by have h1 := HUC.out.1.fits; have h2 : cu.length + inU xD = cs.length + outU xD := HED.out; omega)) (by have := HC.out.2.1; omega) (by have := HNF.out; omega) (by have h1 := compU_bytes xD uC; have h2 := BxD.out; have h3 := BuC.out; omega)
  have HXF : Hid (OpU (normU (compU xD uC)) xF (cs.length) ∧ Eqv xF (compU xD uC)) := ⟨hxs, hex⟩
  clear hxs hex
  have BxF : Hid (bytesU xF ≤ 240) := by show _ ≤ _; have h0 := bytes_norm (compU_ok _ _ HXD.out.1.reads.ok HUC.out.1.reads.ok) HXF.out.1.reads; have h1 := compU_bytes xD uC; have h2 := BxD.out; have h3 := BuC.out; omega
  go_wp2_with fail
  refine (Compose_ok _ _ LA (normU (compU uB uC)) uA xE cs.length ct.length _ HP15.out.2.1.1 HP15.out.2.1.2 HUA.out.1 HP15.out.2.2.2.2.2.2.2.1.1 HP15.out.2.2.2.2.2.2.2.1.2 HXE.out.1 Hct.out.2.2.2.2).mono ?_
  rintro e w13 ⟨vG, rfl, ⟨hp, hcap, hb⟩, hln⟩
  have heq : normU (compU uA xE) = normU (compU xD uC) := by
    refine Eqv.norm ?_
    refine (HXE.out.2.comp2 uA).trans ?_
    rw [← compU_assoc]
    exact (HXD.out.2.comp1 uC).symm
  rw [heq] at hp hln
  clear heq
  have hheld : Held w13 vG (normU (compU xD uC)) := ⟨hp, hcap⟩
  obtain ⟨aoG, capG, rfl⟩ := hheld.form
  have HNG : Hid ((normU (compU xD uC)).length ≤ 40) := by show _ ≤ _; have := hln; have h9 := HNE.out; have h8 := HUA.out.2.2; omega
  clear hp hcap hln
  have HP16 : Hid (IntsAt w13 (.slice aSA (min n0 10) cSA) (min n0 10) z0 ∧ Held w13 (.slice aoA (LA).length capA) (LA) ∧ IntsAt w13 (.slice aSB (min n1 10) cSB) (min n1 10) z1 ∧ Held w13 (.slice aoB (LB).length capB) (LB) ∧ IntsAt w13 (.slice aSC (min n2 10) cSC) (min n2 10) z2 ∧ Held w13 (.slice aoC (LC).length capC) (LC) ∧ Held w13 (.slice aoD (normU (compU uA uB)).length capD) (normU (compU uA uB)) ∧ Held w13 (.slice aoE (normU (compU uB uC)).length capE) (normU (compU uB uC)) ∧ Held w13 (.slice aoF (normU (compU xD uC)).length capF) (normU (compU xD uC)) ∧ Held w13 (.slice aoG (normU (compU xD uC)).length capG) (normU (compU xD uC)) ∧ Below w.heap.size w w13) := ⟨(HP15.out.1).below' hb, (HP15.out.2.1).below hb, (HP15.out.2.2.1).below' hb, (HP15.out.2.2.2.1).below hb, (HP15.out.2.2.2.2.1).below' hb, (HP15.out.2.2.2.2.2.1).below hb, (HP15.out.2.2.2.2.2.2.1).below hb, (HP15.out.2.2.2.2.2.2.2.1).below hb, (HP15.out.2.2.2.2.2.2.2.2.1).below hb, hheld, (HP15.out.2.2.2.2.2.2.2.2.2).trans (hb.mono (HP15.out.2.2.2.2.2.2.2.2.2).size)⟩
  clear hb hheld
  go_wp2_with fail
  refine (Apply_ok _ (normU (compU xD uC)) xF cs _ HP16.out.2.2.2.2.2.2.2.2.1.1 HP16.out.2.2.2.2.2.2.2.2.1.2 HXF.out.1 HC.out.1 (by have := HC.out.2.2; omega)).mono ?_
  rintro e w14 ⟨rfl, hb⟩
  have hgo : applyU xF cs = cv := by rw [HXF.out.2.apply, compU_apply _ _ _ HXD.out.1.fits, HAD.out, ← Hcv.out.1]
  rw [hgo]
  clear hgo
  have HP17 : Hid (IntsAt w14 (.slice aSA (min n0 10) cSA) (min n0 10) z0 ∧ Held w14 (.slice aoA (LA).length capA) (LA) ∧ IntsAt w14 (.slice aSB (min n1 10) cSB) (min n1 10) z1 ∧ Held w14 (.slice aoB (LB).length capB) (LB) ∧ IntsAt w14 (.slice aSC (min n2 10) cSC) (min n2 10) z2 ∧ Held w14 (.slice aoC (LC).length capC) (LC) ∧ Held w14 (.slice aoD (normU (compU uA uB)).length capD) (normU (compU uA uB)) ∧ Held w14 (.slice aoE (normU (compU uB uC)).length capE) (normU (compU uB uC)) ∧ Held w14 (.slice aoF (normU (compU xD uC)).length capF) (normU (compU xD uC)) ∧ Held w14 (.slice aoG (normU (compU xD uC)).length capG) (normU (compU xD uC)) ∧ Below w.heap.size w w14) := ⟨(HP16.out.1).below' hb, (HP16.out.2.1).below hb, (HP16.out.2.2.1).below' hb, (HP16.out.2.2.2.1).below hb, (HP16.out.2.2.2.2.1).below' hb, (HP16.out.2.2.2.2.2.1).below hb, (HP16.out.2.2.2.2.2.2.1).below hb, (HP16.out.2.2.2.2.2.2.2.1).below hb, (HP16.out.2.2.2.2.2.2.2.2.1).below hb, (HP16.out.2.2.2.2.2.2.2.2.2.1).below hb, (HP16.out.2.2.2.2.2.2.2.2.2.2).trans (hb.mono (HP16.out.2.2.2.2.2.2.2.2.2.2).size)⟩
  clear hb
  go_wp2_with fail
  refine (same_yes _ _ (normU (compU xD uC)) _ HP17.out.2.2.2.2.2.2.2.2.1.1 HP17.out.2.2.2.2.2.2.2.2.2.1.1 (by have := HNF.out; omega)).mono ?_
  rintro e w15 ⟨rfl, hb⟩
  have HP18 : Hid (IntsAt w15 (.slice aSA (min n0 10) cSA) (min n0 10) z0 ∧ Held w15 (.slice aoA (LA).length capA) (LA) ∧ IntsAt w15 (.slice aSB (min n1 10) cSB) (min n1 10) z1 ∧ Held w15 (.slice aoB (LB).length capB) (LB) ∧ IntsAt w15 (.slice aSC (min n2 10) cSC) (min n2 10) z2 ∧ Held w15 (.slice aoC (LC).length capC) (LC) ∧ Held w15 (.slice aoD (normU (compU uA uB)).length capD) (normU (compU uA uB)) ∧ Held w15 (.slice aoE (normU (compU uB uC)).length capE) (normU (compU uB uC)) ∧ Held w15 (.slice aoF (normU (compU xD uC)).length capF) (normU (compU xD uC)) ∧ Held w15 (.slice aoG (normU (compU xD uC)).length capG) (normU (compU xD uC)) ∧ Below w.heap.size w w15) := ⟨(HP17.out.1).below' hb, (HP17.out.2.1).below hb, (HP17.out.2.2.1).below' hb, (HP17.out.2.2.2.1).below hb, (HP17.out.2.2.2.2.1).below' hb, (HP17.out.2.2.2.2.2.1).below hb, (HP17.out.2.2.2.2.2.2.1).below hb, (HP17.out.2.2.2.2.2.2.2.1).below hb, (HP17.out.2.2.2.2.2.2.2.2.1).below hb, (HP17.out.2.2.2.2.2.2.2.2.2.1).below hb, (HP17.out.2.2.2.2.2.2.2.2.2.2).trans (hb.mono (HP17.out.2.2.2.2.2.2.2.2.2.2).size)⟩
  clear hb
  go_wp2_with fail
  refine (normal_yes _ (normU (compU uA uB)) _ HP18.out.2.2.2.2.2.2.1.1 (by have := HND.out; omega) (norm_nf _)).mono ?_
  rintro e w16 ⟨rfl, hb⟩
  have HP19 : Hid (IntsAt w16 (.slice aSA (min n0 10) cSA) (min n0 10) z0 ∧ Held w16 (.slice aoA (LA).length capA) (LA) ∧ IntsAt w16 (.slice aSB (min n1 10) cSB) (min n1 10) z1 ∧ Held w16 (.slice aoB (LB).length capB) (LB) ∧ IntsAt w16 (.slice aSC (min n2 10) cSC) (min n2 10) z2 ∧ Held w16 (.slice aoC (LC).length capC) (LC) ∧ Held w16 (.slice aoD (normU (compU uA uB)).length capD) (normU (compU uA uB)) ∧ Held w16 (.slice aoE (normU (compU uB uC)).length capE) (normU (compU uB uC)) ∧ Held w16 (.slice aoF (normU (compU xD uC)).length capF) (normU (compU xD uC)) ∧ Held w16 (.slice aoG (normU (compU xD uC)).length capG) (normU (compU xD uC)) ∧ Below w.heap.size w w16) := ⟨(HP18.out.1).below' hb, (HP18.out.2.1).below hb, (HP18.out.2.2.1).below' hb, (HP18.out.2.2.2.1).below hb, (HP18.out.2.2.2.2.1).below' hb, (HP18.out.2.2.2.2.2.1).below hb, (HP18.out.2.2.2.2.2.2.1).below hb, (HP18.out.2.2.2.2.2.2.2.1).below hb, (HP18.out.2.2.2.2.2.2.2.2.1).below hb, (HP18.out.2.2.2.2.2.2.2.2.2.1).below hb, (HP18.out.2.2.2.2.2.2.2.2.2.2).trans (hb.mono (HP18.out.2.2.2.2.2.2.2.2.2.2).size)⟩
  clear hb
  go_wp2
  go_ret
  exact ⟨by simp, HP19.out.2.2.2.2.2.2.2.2.2.2⟩

end Go.Proofs.Ytgoaihpaajchaaa
