/-
  quillkeep.Transformed.
-/
import Derived.Test.YtgoaihpaajchaaaLaw3
namespace Go.Proofs.Ytgoaihpaajchaaa
open Go.RowKit

/-- what both operations of Transform's answer do. -/
theorem tra_ops {LA LB : List Pt} {uA uB xs ys : List Un} {cs ct cu : List (List UInt8)} (hA : OpU LA uA cs.length) (hB : OpU LB uB cs.length) (hx : Reads (normU uA) xs) (hy : Reads (normU uB) ys) (ex : Eqv xs uA) (ey : Eqv ys uB) (hct : ct = applyU uA cs) (hcu : cu = applyU uB cs)
    (l1 : (normU (traU xs ys).1).length ≤ 40) (l2 : (normU (traU xs ys).2).length ≤ 40) (s1 : ct.length ≤ 1000000) (s2 : cu.length ≤ 1000000) :
    ∃ xx yy, OpU (normU (traU xs ys).1) xx cu.length ∧ OpU (normU (traU xs ys).2) yy ct.length ∧ applyU yy ct = applyU xx cu ∧ normU (compU uB xx) = normU (compU uA yy) := by
  have okx := hx.ok
  have oky := hy.ok
  have fx : inU xs ≤ cs.length := by have h1 := normU_nums uA hA.reads.ok; rw [hx.nums.1] at h1; have h2 := hA.fits; omega
  have fy : inU ys ≤ cs.length := by have h1 := normU_nums uB hB.reads.ok; rw [hy.nums.1] at h1; have h2 := hB.fits; omega
  have hct' : ct = applyU xs cs := by rw [hct, ex.apply]
  have hcu' : cu = applyU ys cs := by rw [hcu, ey.apply]
  have lx := applyU_length xs cs fx
  have ly := applyU_length ys cs fy
  rw [← hct'] at lx
  rw [← hcu'] at ly
  have ok := traU_ok xs ys okx oky
  have fit := traU_in xs ys cs.length fx fy
  have byt := traU_bytes xs ys
  have bx := bytes_norm hA.reads.ok hx
  have bY := bytes_norm hB.reads.ok hy
  have b1 := hA.bytes
  have b2 := hB.bytes
  obtain ⟨xx, hxx, exx⟩ := opU_norm (us := (traU xs ys).1) (n := cu.length) ok.1 (by omega) s2 l1 (by omega)
  obtain ⟨yy, hyy, eyy⟩ := opU_norm (us := (traU xs ys).2) (n := ct.length) ok.2 (by omega) s1 l2 (by omega)
  refine ⟨xx, yy, hxx, hyy, ?_, ?_⟩
  · rw [eyy.apply, exx.apply, hct', hcu', ← compU_apply _ _ _ fx, ← compU_apply _ _ _ fy]
    exact (traU_meet xs ys).apply cs
  · refine Eqv.norm ?_
    refine (exx.comp2 uB).trans ((ey.symm.comp1 _).trans ((traU_meet xs ys).symm.trans ?_))
    exact (ex.comp1 _).trans (eyy.symm.comp2 uA)

theorem ch49 : IsCh [49] := isCh1 49 (by decide)
theorem ch50 : IsCh [50] := isCh1 50 (by decide)
theorem reads49 : Reads [I [49]] [.i [49]] := by
  have := Reads.i (L := []) (us := []) [[49]] (by simp only [List.mem_singleton]; rintro c rfl; exact ch49) (by simp) .nil
  simpa using this
theorem reads50 : Reads [I [50]] [.i [50]] := by
  have := Reads.i (L := []) (us := []) [[50]] (by simp only [List.mem_singleton]; rintro c rfl; exact ch50) (by simp) .nil
  simpa using this
theorem norm49 : normU [.i [49]] = [I [49]] := rfl
theorem norm50 : normU [.i [50]] = [I [50]] := rfl
theorem tra_lit : traU [.i [49]] [.i [50]] = ([.i [49], .k], [.k, .i [50]]) := by simp [traU]
theorem normX : normU [.i [49], .k] = [I [49]] := rfl
theorem normY : normU [.k, .i [50]] = [K 1, I [50]] := rfl

def lit1 : Obj := .cells #[.int .i64 2, .int .i64 0, .string ⟨#[49]⟩] 42
def lit2 : Obj := .cells #[.int .i64 2, .int .i64 0, .string ⟨#[50]⟩] 42
def lit3 : Obj := .cells #[.int .i64 1, .int .i64 1, .string ⟨#[]⟩, .int .i64 2, .int .i64 0, .string ⟨#[50]⟩] 42
theorem lit1_at (w' : World) (b : Nat) (h : w'.heap[b]? = some lit1) : PartsAt w' (.slice (some ⟨b, 0, none⟩) 1 1) [I [49]] := by
  refine ⟨_, _, rfl, fun _ => ⟨b, 0, rfl, lt_of_blk h, fun k hk => ?_⟩⟩
  have hk' : k < 1 := hk
  match k, hk' with
  | 0, _ => exact ⟨Lib.cell_of_heap h 0, Lib.cell_of_heap h 1, Lib.cell_of_heap h 2⟩
theorem lit2_at (w' : World) (b : Nat) (h : w'.heap[b]? = some lit2) : PartsAt w' (.slice (some ⟨b, 0, none⟩) 1 1) [I [50]] := by
  refine ⟨_, _, rfl, fun _ => ⟨b, 0, rfl, lt_of_blk h, fun k hk => ?_⟩⟩
  have hk' : k < 1 := hk
  match k, hk' with
  | 0, _ => exact ⟨Lib.cell_of_heap h 0, Lib.cell_of_heap h 1, Lib.cell_of_heap h 2⟩
theorem lit3_at (w' : World) (b : Nat) (h : w'.heap[b]? = some lit3) : PartsAt w' (.slice (some ⟨b, 0, none⟩) 2 2) [K 1, I [50]] := by
  refine ⟨_, _, rfl, fun _ => ⟨b, 0, rfl, lt_of_blk h, fun k hk => ?_⟩⟩
  have hk' : k < 2 := hk
  match k, hk' with
  | 0, _ => exact ⟨Lib.cell_of_heap h 0, Lib.cell_of_heap h 1, Lib.cell_of_heap h 2⟩
  | 1, _ => exact ⟨Lib.cell_of_heap h 3, Lib.cell_of_heap h 4, Lib.cell_of_heap h 5⟩

theorem lit_call (w : World) (n : Nat) (hn : n ≤ 1000000) : Calls Try.prog 17 #[.slice (some ⟨w.heap.size, 0, none⟩) 1 1, .slice (some ⟨w.heap.size + 1, 0, none⟩) 1 1, .int .i64 n] ((w.alloc lit1).alloc lit2) fun e w' => ∃ v1 v2, e = .returned (.tuple #[v1, v2, .int .i64 0]) ∧ Held w' v1 [I [49]] ∧ Held w' v2 [K 1, I [50]] ∧ Below w.heap.size w w' := by
  have h := heap_two w lit1 lit2
  have o1 : OpU [I [49]] [.i [49]] n := ⟨reads49, by decide, by simp [inU], hn, by simp [bytesU]⟩
  have o2 : OpU [I [50]] [.i [50]] n := ⟨reads50, by decide, by simp [inU], hn, by simp [bytesU]⟩
  refine (Transform_ok _ _ [I [49]] [I [50]] [.i [49]] [.i [50]] [.i [49]] [.i [50]] n _ (lit1_at _ _ h.1) (Nat.le_refl 1) o1 (lit2_at _ _ h.2) (Nat.le_refl 1) o2 (by rw [norm49]; exact reads49) (by rw [norm50]; exact reads50)).mono ?_
  rintro e w' ⟨v1, v2, rfl, ⟨p1, q1, _⟩, ⟨p2, q2, _⟩, hb⟩
  rw [tra_lit] at p1 p2
  exact ⟨v1, v2, rfl, ⟨p1, q1⟩, ⟨p2, q2⟩, (((Below.refl _ _).alloc (Nat.le_refl _) _).alloc (by simp) _).trans (hb.mono (by simp; omega))⟩

theorem lit_same1 (w : World) (v : Value) (h : Held w v [I [49]]) : Calls Try.prog 14 #[v, .slice (some ⟨w.heap.size, 0, none⟩) 1 1] (w.alloc lit1) fun e w' => e = .returned (.bool true) ∧ Below w.heap.size w w' := by
  have hb := (Below.refl w.heap.size w).alloc (Nat.le_refl _) lit1
  refine (same_yes _ _ [I [49]] _ (h.1.below hb (Nat.le_refl _)) (lit1_at _ _ (heap_alloc_new w _)) (by decide)).mono ?_
  rintro e w' ⟨rfl, hb2⟩
  exact ⟨rfl, hb.trans (hb2.mono (by simp))⟩
theorem lit_same2 (w : World) (v : Value) (h : Held w v [K 1, I [50]]) : Calls Try.prog 14 #[v, .slice (some ⟨w.heap.size, 0, none⟩) 2 2] (w.alloc lit3) fun e w' => e = .returned (.bool true) ∧ Below w.heap.size w w' := by
  have hb := (Below.refl w.heap.size w).alloc (Nat.le_refl _) lit3
  refine (same_yes _ _ [K 1, I [50]] _ (h.1.below hb (Nat.le_refl _)) (lit3_at _ _ (heap_alloc_new w _)) (by decide)).mono ?_
  rintro e w' ⟨rfl, hb2⟩
  exact ⟨rfl, hb.trans (hb2.mono (by simp))⟩

set_option maxHeartbeats 4000000 in
set_option maxRecDepth 100000 in
theorem transformed_any (a0 a1 a2 : Option Addr) (n0 c0 n1 c1 n2 c2 : Nat) (z0 z1 z2 : Nat → Int) (w : World) (h0 : IntsAt w (.slice a0 n0 c0) n0 z0) (h1 : IntsAt w (.slice a1 n1 c1) n1 z1) (h2 : IntsAt w (.slice a2 n2 c2) n2 z2) (k0 : CapOk (.slice a0 n0 c0)) (k1 : CapOk (.slice a1 n1 c1)) :
    Calls Try.prog 5 #[.slice a0 n0 c0, .slice a1 n1 c1, .slice a2 n2 c2] w fun e w' => e = .returned (.bool true) ∧ Below w.heap.size w w' := by
  have HP0 : Hid (IntsAt w (.slice a0 n0 c0) (n0) z0 ∧ CapOk (.slice a0 n0 c0) ∧ IntsAt w (.slice a1 n1 c1) (n1) z1 ∧ CapOk (.slice a1 n1 c1) ∧ IntsAt w (.slice a2 n2 c2) (n2) z2 ∧ Below w.heap.size w w) := ⟨h0 , k0 , h1 , k1 , h2, Below.refl _ _⟩
  clear h0 h1 h2 k0 k1
  go_enter Try.func5, Try.ntmps5
  go_wp2_with fail
  refine (works_any _).mono ?_
  rintro e w1 ⟨rfl, hb⟩
  have HP1 : Hid (IntsAt w1 (.slice a0 n0 c0) (n0) z0 ∧ CapOk (.slice a0 n0 c0) ∧ IntsAt w1 (.slice a1 n1 c1) (n1) z1 ∧ CapOk (.slice a1 n1 c1) ∧ IntsAt w1 (.slice a2 n2 c2) (n2) z2 ∧ Below w.heap.size w w1) := ⟨(HP0.out.1).below' hb, HP0.out.2.1, (HP0.out.2.2.1).below' hb, HP0.out.2.2.2.1, (HP0.out.2.2.2.2.1).below' hb, (HP0.out.2.2.2.2.2).trans (hb.mono (HP0.out.2.2.2.2.2).size)⟩
  clear hb
  go_wp2_with fail
  refine (text_any _ n2 30 z2 _ (HP1.out.2.2.2.2.1) (by omega)).mono ?_
  rintro e w2 ⟨cs, rfl, hch, hcl, hfl, hb⟩
  have HC : Hid ((∀ c ∈ cs, IsCh c) ∧ cs.length ≤ 30 ∧ cs.flatten.length ≤ 4 * 30) := ⟨hch, hcl, hfl⟩
  have HL : Hid (∀ x, Calls Try.prog 10 #[.string (bs cs.flatten)] x fun e w' => e = .returned (.int .i64 cs.length) ∧ w' = x) := length_chars HC.out.1 (by have := HC.out.2.2; omega)
  clear hch hcl hfl
  have HP2 : Hid (IntsAt w2 (.slice a0 n0 c0) (n0) z0 ∧ CapOk (.slice a0 n0 c0) ∧ IntsAt w2 (.slice a1 n1 c1) (n1) z1 ∧ CapOk (.slice a1 n1 c1) ∧ Below w.heap.size w w2) := ⟨(HP1.out.1).below' hb, HP1.out.2.1, (HP1.out.2.2.1).below' hb, HP1.out.2.2.2.1, (HP1.out.2.2.2.2.2).trans (hb.mono (HP1.out.2.2.2.2.2).size)⟩
  clear hb
  go_wp2_with fail
  refine (HL.out _).mono ?_
  rintro e wq1 ⟨rfl, rfl⟩
  go_wp2_with fail
  refine (short_any _ n0 z0 _ (HP2.out.1) (HP2.out.2.1)).mono ?_
  rintro e wq2 ⟨vS, rfl, hz, rfl⟩
  obtain ⟨aSA, cSA, rfl, _⟩ := id hz
  have HP3 : Hid (IntsAt wq2 (.slice a1 n1 c1) (n1) z1 ∧ CapOk (.slice a1 n1 c1) ∧ IntsAt wq2 (.slice aSA (min n0 10) cSA) (min n0 10) z0 ∧ Below w.heap.size w wq2) := ⟨HP2.out.2.2.1, HP2.out.2.2.2.1, hz, HP2.out.2.2.2.2⟩
  clear hz
  go_wp2_with fail
  refine (made_ok _ (min n0 10) cs.length z0 _ (HP3.out.2.2.1) (by have := HC.out.2.1; omega)).mono ?_
  rintro e w3 ⟨vA, LA, mA, rfl, hp, hcap, hll, hmade, hb⟩
  obtain ⟨uA, hu, hub⟩ := hmade.opU hll.1 (by have := HC.out.2.1; omega)
  have hheld : Held w3 vA LA := ⟨hp, hcap⟩
  obtain ⟨aoA, capA, rfl⟩ := hheld.form
  have HUA : Hid (OpU LA uA cs.length ∧ bytesU uA ≤ 8 * LA.length ∧ LA.length ≤ 10) := ⟨hu, hub, by omega⟩
  clear hp hcap hll hmade hu hub
  have HP4 : Hid (IntsAt w3 (.slice a1 n1 c1) (n1) z1 ∧ CapOk (.slice a1 n1 c1) ∧ IntsAt w3 (.slice aSA (min n0 10) cSA) (min n0 10) z0 ∧ Held w3 (.slice aoA (LA).length capA) (LA) ∧ Below w.heap.size w w3) := ⟨(HP3.out.1).below' hb, HP3.out.2.1, (HP3.out.2.2.1).below' hb, hheld, (HP3.out.2.2.2).trans (hb.mono (HP3.out.2.2.2).size)⟩
  clear hb hheld
  obtain ⟨ct, hct⟩ : ∃ xx, xx = applyU uA cs := ⟨_, rfl⟩
  have Hct : Hid (ct = applyU uA cs ∧ (∀ c ∈ ct, IsCh c) ∧ ct.flatten.length ≤ 200 ∧ ct.length ≤ 200 ∧ ct.length + inU uA = cs.length + outU uA) := chars_by (B := 120) HC.out.1 HC.out.2.2 HUA.out.1 HUA.out.2.1 HUA.out.2.2 hct
  clear hct
  go_wp2_with fail
  refine (short_any _ n1 z1 _ (HP4.out.1) (HP4.out.2.1)).mono ?_
  rintro e wq3 ⟨vS, rfl, hz, rfl⟩
  obtain ⟨aSB, cSB, rfl, _⟩ := id hz
  have HP5 : Hid (IntsAt wq3 (.slice aSA (min n0 10) cSA) (min n0 10) z0 ∧ Held wq3 (.slice aoA (LA).length capA) (LA) ∧ IntsAt wq3 (.slice aSB (min n1 10) cSB) (min n1 10) z1 ∧ Below w.heap.size w wq3) := ⟨HP4.out.2.2.1, HP4.out.2.2.2.1, hz, HP4.out.2.2.2.2⟩
  clear hz
  go_wp2_with fail
  refine (made_ok _ (min n1 10) cs.length z1 _ (HP5.out.2.2.1) (by have := HC.out.2.1; omega)).mono ?_
  rintro e w4 ⟨vB, LB, mB, rfl, hp, hcap, hll, hmade, hb⟩
  obtain ⟨uB, hu, hub⟩ := hmade.opU hll.1 (by have := HC.out.2.1; omega)
  have hheld : Held w4 vB LB := ⟨hp, hcap⟩
  obtain ⟨aoB, capB, rfl⟩ := hheld.form
  have HUB : Hid (OpU LB uB cs.length ∧ bytesU uB ≤ 8 * LB.length ∧ LB.length ≤ 10) := ⟨hu, hub, by omega⟩
  clear hp hcap hll hmade hu hub
  have HP6 : Hid (IntsAt w4 (.slice aSA (min n0 10) cSA) (min n0 10) z0 ∧ Held w4 (.slice aoA (LA).length capA) (LA) ∧ IntsAt w4 (.slice aSB (min n1 10) cSB) (min n1 10) z1 ∧ Held w4 (.slice aoB (LB).length capB) (LB) ∧ Below w.heap.size w w4) := ⟨(HP5.out.1).below' hb, (HP5.out.2.1).below hb, (HP5.out.2.2.1).below' hb, hheld, (HP5.out.2.2.2).trans (hb.mono (HP5.out.2.2.2).size)⟩
  clear hb hheld
  obtain ⟨cu, hct⟩ : ∃ xx, xx = applyU uB cs := ⟨_, rfl⟩
  have Hcu : Hid (cu = applyU uB cs ∧ (∀ c ∈ cu, IsCh c) ∧ cu.flatten.length ≤ 200 ∧ cu.length ≤ 200 ∧ cu.length + inU uB = cs.length + outU uB) := chars_by (B := 120) HC.out.1 HC.out.2.2 HUB.out.1 HUB.out.2.1 HUB.out.2.2 hct
  clear hct
  obtain ⟨xs, hxs, hexs⟩ := reads_norm uA HUA.out.1.reads.ok
  obtain ⟨ys, hys, heys⟩ := reads_norm uB HUB.out.1.reads.ok
  have HXY : Hid (Reads (normU uA) xs ∧ Reads (normU uB) ys ∧ Eqv xs uA ∧ Eqv ys uB) := ⟨hxs, hys, hexs, heys⟩
  clear hxs hys hexs heys
  go_wp2_with fail
  refine (Transform_ok _ _ LA LB uA uB xs ys cs.length _ HP6.out.2.1.1 HP6.out.2.1.2 HUA.out.1 HP6.out.2.2.2.1.1 HP6.out.2.2.2.1.2 HUB.out.1 HXY.out.1 HXY.out.2.1).mono ?_
  rintro e w5 ⟨vX, vY, rfl, ⟨hpX, hcX, hlX⟩, ⟨hpY, hcY, hlY⟩, hb⟩
  have hX : Held w5 vX (normU (traU xs ys).1) := ⟨hpX, hcX⟩
  have hY : Held w5 vY (normU (traU xs ys).2) := ⟨hpY, hcY⟩
  obtain ⟨aoX, capX, rfl⟩ := hX.form
  obtain ⟨aoY, capY, rfl⟩ := hY.form
  have HNX : Hid ((normU (traU xs ys).1).length ≤ 20 ∧ (normU (traU xs ys).2).length ≤ 20) := by have h1 := HUA.out.2.2; have h2 := HUB.out.2.2; exact ⟨by omega, by omega⟩
  clear hpX hcX hlX hpY hcY hlY
  have HP7 : Hid (IntsAt w5 (.slice aSA (min n0 10) cSA) (min n0 10) z0 ∧ Held w5 (.slice aoA (LA).length capA) (LA) ∧ IntsAt w5 (.slice aSB (min n1 10) cSB) (min n1 10) z1 ∧ Held w5 (.slice aoB (LB).length capB) (LB) ∧ Held w5 (.slice aoX (normU (traU xs ys).1).length capX) (normU (traU xs ys).1) ∧ Held w5 (.slice aoY (normU (traU xs ys).2).length capY) (normU (traU xs ys).2) ∧ Below w.heap.size w w5) := ⟨(HP6.out.1).below' hb, (HP6.out.2.1).below hb, (HP6.out.2.2.1).below' hb, (HP6.out.2.2.2.1).below hb, hX, hY, (HP6.out.2.2.2.2).trans (hb.mono (HP6.out.2.2.2.2).size)⟩
  clear hb hX hY
  have HBU : Hid (bytesU uA ≤ 80 ∧ bytesU uB ≤ 80) := by have h1 := HUA.out.2; have h2 := HUB.out.2; exact ⟨by omega, by omega⟩
  obtain ⟨xx, yy, hxx⟩ := tra_ops HUA.out.1 HUB.out.1 HXY.out.1 HXY.out.2.1 HXY.out.2.2.1 HXY.out.2.2.2 Hct.out.1 Hcu.out.1 (by have := HNX.out; omega) (by have := HNX.out; omega) (by have := Hct.out.2.2.2.1; omega) (by have := Hcu.out.2.2.2.1; omega)
  have HXX : Hid (OpU (normU (traU xs ys).1) xx cu.length ∧ OpU (normU (traU xs ys).2) yy ct.length ∧ applyU yy ct = applyU xx cu ∧ normU (compU uB xx) = normU (compU uA yy)) := hxx
  clear hxx
  go_wp2_with fail
  refine (Apply_ok _ LA uA cs _ HP7.out.2.1.1 HP7.out.2.1.2 HUA.out.1 HC.out.1 (by have := HC.out.2.2; omega)).mono ?_
  rintro e w6 ⟨rfl, hb⟩
  rw [← Hct.out.1]
  have HP8 : Hid (IntsAt w6 (.slice aSA (min n0 10) cSA) (min n0 10) z0 ∧ Held w6 (.slice aoA (LA).length capA) (LA) ∧ IntsAt w6 (.slice aSB (min n1 10) cSB) (min n1 10) z1 ∧ Held w6 (.slice aoB (LB).length capB) (LB) ∧ Held w6 (.slice aoX (normU (traU xs ys).1).length capX) (normU (traU xs ys).1) ∧ Held w6 (.slice aoY (normU (traU xs ys).2).length capY) (normU (traU xs ys).2) ∧ Below w.heap.size w w6) := ⟨(HP7.out.1).below' hb, (HP7.out.2.1).below hb, (HP7.out.2.2.1).below' hb, (HP7.out.2.2.2.1).below hb, (HP7.out.2.2.2.2.1).below hb, (HP7.out.2.2.2.2.2.1).below hb, (HP7.out.2.2.2.2.2.2).trans (hb.mono (HP7.out.2.2.2.2.2.2).size)⟩
  clear hb
  go_wp2_with fail
  refine (Apply_ok _ LB uB cs _ HP8.out.2.2.2.1.1 HP8.out.2.2.2.1.2 HUB.out.1 HC.out.1 (by have := HC.out.2.2; omega)).mono ?_
  rintro e w7 ⟨rfl, hb⟩
  rw [← Hcu.out.1]
  have HP9 : Hid (IntsAt w7 (.slice aSA (min n0 10) cSA) (min n0 10) z0 ∧ Held w7 (.slice aoA (LA).length capA) (LA) ∧ IntsAt w7 (.slice aSB (min n1 10) cSB) (min n1 10) z1 ∧ Held w7 (.slice aoB (LB).length capB) (LB) ∧ Held w7 (.slice aoX (normU (traU xs ys).1).length capX) (normU (traU xs ys).1) ∧ Held w7 (.slice aoY (normU (traU xs ys).2).length capY) (normU (traU xs ys).2) ∧ Below w.heap.size w w7) := ⟨(HP8.out.1).below' hb, (HP8.out.2.1).below hb, (HP8.out.2.2.1).below' hb, (HP8.out.2.2.2.1).below hb, (HP8.out.2.2.2.2.1).below hb, (HP8.out.2.2.2.2.2.1).below hb, (HP8.out.2.2.2.2.2.2).trans (hb.mono (HP8.out.2.2.2.2.2.2).size)⟩
  clear hb
  go_wp2_with fail
  refine (Apply_ok _ (normU (traU xs ys).2) yy ct _ HP9.out.2.2.2.2.2.1.1 HP9.out.2.2.2.2.2.1.2 HXX.out.2.1 Hct.out.2.1 (by have := Hct.out.2.2.1; omega)).mono ?_
  rintro e w8 ⟨rfl, hb⟩
  rw [HXX.out.2.2.1]
  have HP10 : Hid (IntsAt w8 (.slice aSA (min n0 10) cSA) (min n0 10) z0 ∧ Held w8 (.slice aoA (LA).length capA) (LA) ∧ IntsAt w8 (.slice aSB (min n1 10) cSB) (min n1 10) z1 ∧ Held w8 (.slice aoB (LB).length capB) (LB) ∧ Held w8 (.slice aoX (normU (traU xs ys).1).length capX) (normU (traU xs ys).1) ∧ Held w8 (.slice aoY (normU (traU xs ys).2).length capY) (normU (traU xs ys).2) ∧ Below w.heap.size w w8) := ⟨(HP9.out.1).below' hb, (HP9.out.2.1).below hb, (HP9.out.2.2.1).below' hb, (HP9.out.2.2.2.1).below hb, (HP9.out.2.2.2.2.1).below hb, (HP9.out.2.2.2.2.2.1).below hb, (HP9.out.2.2.2.2.2.2).trans (hb.mono (HP9.out.2.2.2.2.2.2).size)⟩
  clear hb
  go_wp2_with fail
  refine (Apply_ok _ (normU (traU xs ys).1) xx cu _ HP10.out.2.2.2.2.1.1 HP10.out.2.2.2.2.1.2 HXX.out.1 Hcu.out.2.1 (by have := Hcu.out.2.2.1; omega)).mono ?_
  rintro e w9 ⟨rfl, hb⟩
  have HP11 : Hid (IntsAt w9 (.slice aSA (min n0 10) cSA) (min n0 10) z0 ∧ Held w9 (.slice aoA (LA).length capA) (LA) ∧ IntsAt w9 (.slice aSB (min n1 10) cSB) (min n1 10) z1 ∧ Held w9 (.slice aoB (LB).length capB) (LB) ∧ Held w9 (.slice aoX (normU (traU xs ys).1).length capX) (normU (traU xs ys).1) ∧ Held w9 (.slice aoY (normU (traU xs ys).2).length capY) (normU (traU xs ys).2) ∧ Below w.heap.size w w9) := ⟨(HP10.out.1).below' hb, (HP10.out.2.1).below hb, (HP10.out.2.2.1).below' hb, (HP10.out.2.2.2.1).below hb, (HP10.out.2.2.2.2.1).below hb, (HP10.out.2.2.2.2.2.1).below hb, (HP10.out.2.2.2.2.2.2).trans (hb.mono (HP10.out.2.2.2.2.2.2).size)⟩
  clear hb
  go_wp2_with fail
  refine (Compose_ok _ _ LA (normU (traU xs ys).2) uA yy cs.length ct.length _ HP11.out.2.1.1 HP11.out.2.1.2 HUA.out.1 HP11.out.2.2.2.2.2.1.1 HP11.out.2.2.2.2.2.1.2 HXX.out.2.1 Hct.out.2.2.2.2).mono ?_
  rintro e w10 ⟨vP, rfl, ⟨hp, hcap, hb⟩, hln⟩
  have hheld : Held w10 vP (normU (compU uA yy)) := ⟨hp, hcap⟩
  obtain ⟨aoP, capP, rfl⟩ := hheld.form
  have HNP : Hid ((normU (compU uA yy)).length ≤ 40) := by show _ ≤ _; have := hln; have h9 := HNX.out; have h8 := HUA.out.2.2; omega
  clear hp hcap hln
  have HP12 : Hid (IntsAt w10 (.slice aSA (min n0 10) cSA) (min n0 10) z0 ∧ Held w10 (.slice aoA (LA).length capA) (LA) ∧ IntsAt w10 (.slice aSB (min n1 10) cSB) (min n1 10) z1 ∧ Held w10 (.slice aoB (LB).length capB) (LB) ∧ Held w10 (.slice aoX (normU (traU xs ys).1).length capX) (normU (traU xs ys).1) ∧ Held w10 (.slice aoY (normU (traU xs ys).2).length capY) (normU (traU xs ys).2) ∧ Held w10 (.slice aoP (normU (compU uA yy)).length capP) (normU (compU uA yy)) ∧ Below w.heap.size w w10) := ⟨(HP11.out.1).below' hb, (HP11.out.2.1).below hb, (HP11.out.2.2.1).below' hb, (HP11.out.2.2.2.1).below hb, (HP11.out.2.2.2.2.1).below hb, (HP11.out.2.2.2.2.2.1).below hb, hheld, (HP11.out.2.2.2.2.2.2).trans (hb.mono (HP11.out.2.2.2.2.2.2).size)⟩
  clear hb hheld
  go_wp2_with fail
  refine (Compose_ok _ _ LB (normU (traU xs ys).1) uB xx cs.length cu.length _ HP12.out.2.2.2.1.1 HP12.out.2.2.2.1.2 HUB.out.1 HP12.out.2.2.2.2.1.1 HP12.out.2.2.2.2.1.2 HXX.out.1 Hcu.out.2.2.2.2).mono ?_
  rintro e w11 ⟨vQ, rfl, ⟨hp, hcap, hb⟩, hln⟩
  rw [HXX.out.2.2.2] at hp hln
  have hheld : Held w11 vQ (normU (compU uA yy)) := ⟨hp, hcap⟩
  obtain ⟨aoQ, capQ, rfl⟩ := hheld.form
  have HNQ : Hid ((normU (compU uA yy)).length ≤ 40) := by show _ ≤ _; have := hln; have h9 := HNX.out; have h8 := HUB.out.2.2; omega
  clear hp hcap hln
  have HP13 : Hid (IntsAt w11 (.slice aSA (min n0 10) cSA) (min n0 10) z0 ∧ Held w11 (.slice aoA (LA).length capA) (LA) ∧ IntsAt w11 (.slice aSB (min n1 10) cSB) (min n1 10) z1 ∧ Held w11 (.slice aoB (LB).length capB) (LB) ∧ Held w11 (.slice aoX (normU (traU xs ys).1).length capX) (normU (traU xs ys).1) ∧ Held w11 (.slice aoY (normU (traU xs ys).2).length capY) (normU (traU xs ys).2) ∧ Held w11 (.slice aoP (normU (compU uA yy)).length capP) (normU (compU uA yy)) ∧ Held w11 (.slice aoQ (normU (compU uA yy)).length capQ) (normU (compU uA yy)) ∧ Below w.heap.size w w11) := ⟨(HP12.out.1).below' hb, (HP12.out.2.1).below hb, (HP12.out.2.2.1).below' hb, (HP12.out.2.2.2.1).below hb, (HP12.out.2.2.2.2.1).below hb, (HP12.out.2.2.2.2.2.1).below hb, (HP12.out.2.2.2.2.2.2.1).below hb, hheld, (HP12.out.2.2.2.2.2.2.2).trans (hb.mono (HP12.out.2.2.2.2.2.2.2).size)⟩
  clear hb hheld
  go_wp2_with fail
  refine (same_yes _ _ (normU (compU uA yy)) _ HP13.out.2.2.2.2.2.2.1.1 HP13.out.2.2.2.2.2.2.2.1.1 (by have := HNP.out; omega)).mono ?_
  rintro e w12 ⟨rfl, hb⟩
  have HP14 : Hid (IntsAt w12 (.slice aSA (min n0 10) cSA) (min n0 10) z0 ∧ Held w12 (.slice aoA (LA).length capA) (LA) ∧ IntsAt w12 (.slice aSB (min n1 10) cSB) (min n1 10) z1 ∧ Held w12 (.slice aoB (LB).length capB) (LB) ∧ Held w12 (.slice aoX (normU (traU xs ys).1).length capX) (normU (traU xs ys).1) ∧ Held w12 (.slice aoY (normU (traU xs ys).2).length capY) (normU (traU xs ys).2) ∧ Held w12 (.slice aoP (normU (compU uA yy)).length capP) (normU (compU uA yy)) ∧ Held w12 (.slice aoQ (normU (compU uA yy)).length capQ) (normU (compU uA yy)) ∧ Below w.heap.size w w12) := ⟨(HP13.out.1).below' hb, (HP13.out.2.1).below hb, (HP13.out.2.2.1).below' hb, (HP13.out.2.2.2.1).below hb, (HP13.out.2.2.2.2.1).below hb, (HP13.out.2.2.2.2.2.1).below hb, (HP13.out.2.2.2.2.2.2.1).below hb, (HP13.out.2.2.2.2.2.2.2.1).below hb, (HP13.out.2.2.2.2.2.2.2.2).trans (hb.mono (HP13.out.2.2.2.2.2.2.2.2).size)⟩
  clear hb
  go_wp2_with fail
  refine (normal_yes _ (normU (traU xs ys).1) _ HP14.out.2.2.2.2.1.1 (by have := HNX.out; omega) (norm_nf _)).mono ?_
  rintro e w13 ⟨rfl, hb⟩
  have HP15 : Hid (IntsAt w13 (.slice aSA (min n0 10) cSA) (min n0 10) z0 ∧ Held w13 (.slice aoA (LA).length capA) (LA) ∧ IntsAt w13 (.slice aSB (min n1 10) cSB) (min n1 10) z1 ∧ Held w13 (.slice aoB (LB).length capB) (LB) ∧ Held w13 (.slice aoX (normU (traU xs ys).1).length capX) (normU (traU xs ys).1) ∧ Held w13 (.slice aoY (normU (traU xs ys).2).length capY) (normU (traU xs ys).2) ∧ Held w13 (.slice aoP (normU (compU uA yy)).length capP) (normU (compU uA yy)) ∧ Held w13 (.slice aoQ (normU (compU uA yy)).length capQ) (normU (compU uA yy)) ∧ Below w.heap.size w w13) := ⟨(HP14.out.1).below' hb, (HP14.out.2.1).below hb, (HP14.out.2.2.1).below' hb, (HP14.out.2.2.2.1).below hb, (HP14.out.2.2.2.2.1).below hb, (HP14.out.2.2.2.2.2.1).below hb, (HP14.out.2.2.2.2.2.2.1).below hb, (HP14.out.2.2.2.2.2.2.2.1).below hb, (HP14.out.2.2.2.2.2.2.2.2).trans (hb.mono (HP14.out.2.2.2.2.2.2.2.2).size)⟩
  clear hb
  go_wp2_with fail
  refine (normal_yes _ (normU (traU xs ys).2) _ HP15.out.2.2.2.2.2.1.1 (by have := HNX.out; omega) (norm_nf _)).mono ?_
  rintro e w14 ⟨rfl, hb⟩
  have HP16 : Hid (IntsAt w14 (.slice aSA (min n0 10) cSA) (min n0 10) z0 ∧ IntsAt w14 (.slice aSB (min n1 10) cSB) (min n1 10) z1 ∧ Below w.heap.size w w14) := ⟨(HP15.out.1).below' hb, (HP15.out.2.2.1).below' hb, (HP15.out.2.2.2.2.2.2.2.2).trans (hb.mono (HP15.out.2.2.2.2.2.2.2.2).size)⟩
  clear hb
  go_wp2_with fail
  refine (lit_call _ cs.length (by have := HC.out.2.1; omega)).mono ?_
  rintro e w15 ⟨vK, vL, rfl, hK, hL, hb⟩
  obtain ⟨aoK, capK, rfl⟩ := hK.form
  obtain ⟨aoL, capL, rfl⟩ := hL.form
  have HP17 : Hid (IntsAt w15 (.slice aSA (min n0 10) cSA) (min n0 10) z0 ∧ IntsAt w15 (.slice aSB (min n1 10) cSB) (min n1 10) z1 ∧ Held w15 (.slice aoK ([I [49]]).length capK) ([I [49]]) ∧ Held w15 (.slice aoL ([K 1, I [50]]).length capL) ([K 1, I [50]]) ∧ Below w.heap.size w w15) := ⟨(HP16.out.1).below' hb, (HP16.out.2.1).below' hb, hK, hL, (HP16.out.2.2).trans (hb.mono (HP16.out.2.2).size)⟩
  clear hb hK hL
  go_wp2_with fail
  refine (lit_same1 _ _ HP17.out.2.2.1).mono ?_
  rintro e w16 ⟨rfl, hb⟩
  have HP18 : Hid (IntsAt w16 (.slice aSA (min n0 10) cSA) (min n0 10) z0 ∧ IntsAt w16 (.slice aSB (min n1 10) cSB) (min n1 10) z1 ∧ Held w16 (.slice aoK ([I [49]]).length capK) ([I [49]]) ∧ Held w16 (.slice aoL ([K 1, I [50]]).length capL) ([K 1, I [50]]) ∧ Below w.heap.size w w16) := ⟨(HP17.out.1).below' hb, (HP17.out.2.1).below' hb, (HP17.out.2.2.1).below hb, (HP17.out.2.2.2.1).below hb, (HP17.out.2.2.2.2).trans (hb.mono (HP17.out.2.2.2.2).size)⟩
  clear hb
  go_wp2_with fail
  refine (lit_same2 _ _ HP18.out.2.2.2.1).mono ?_
  rintro e w17 ⟨rfl, hb⟩
  have HP19 : Hid (IntsAt w17 (.slice aSA (min n0 10) cSA) (min n0 10) z0 ∧ IntsAt w17 (.slice aSB (min n1 10) cSB) (min n1 10) z1 ∧ Held w17 (.slice aoK ([I [49]]).length capK) ([I [49]]) ∧ Held w17 (.slice aoL ([K 1, I [50]]).length capL) ([K 1, I [50]]) ∧ Below w.heap.size w w17) := ⟨(HP18.out.1).below' hb, (HP18.out.2.1).below' hb, (HP18.out.2.2.1).below hb, (HP18.out.2.2.2.1).below hb, (HP18.out.2.2.2.2).trans (hb.mono (HP18.out.2.2.2.2).size)⟩
  clear hb
  go_wp2
  go_ret
  exact ⟨by simp, HP19.out.2.2.2.2⟩

end Go.Proofs.Ytgoaihpaajchaaa
