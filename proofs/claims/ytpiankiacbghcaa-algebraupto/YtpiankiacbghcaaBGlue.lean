/-
  The program's Compose, Transform, Invert at every operation.
  What the document's reading of an operation is, beside the program's.
-/
import Derived.Test.YtpiankiacbghcaaOps1
import Derived.Test.YtpiankiacbghcaaRProg
import Derived.Test.YtpiankiacbghcaaRRef14
import Derived.Test.YtpiankiacbghcaaBBeh0
namespace Go.Proofs.Ytpiankiacbghcaa
open Go.RowKit

/-- what Compose gives; of the program's besides: not too long. -/
def CompSays (b : Bool) (F : FuncId) (QA QB : List Qt) (A : Int) (N : List Pt) (err : Int) : Prop :=
  ∀ w x y, QsAt w x QA → CapOk x → QsAt w y QB → CapOk y → Calls Try.prog F #[x, y, .int .i64 A] w fun e w' => ∃ lv, e = .returned (.tuple #[lv, .int .i64 err]) ∧ w'.ownsRow w.heap.size 45 3 lv N.length (rowOf N) ∧ (lv = .slice none 0 0 ∨ err = 0) ∧ (b = true → N.length ≤ 900) ∧ Below w.heap.size w w'

def TraSays (b : Bool) (F : FuncId) (QA QB : List Qt) (A : Int) (N1 N2 : List Pt) (err : Int) : Prop :=
  ∀ w x y, QsAt w x QA → CapOk x → QsAt w y QB → CapOk y → Calls Try.prog F #[x, y, .int .i64 A] w fun e w' => ∃ l1 l2, e = .returned (.tuple #[l1, l2, .int .i64 err]) ∧ TwoNew w w' l1 l2 N1 N2 ∧ (l1 = .slice none 0 0 ∧ l2 = .slice none 0 0 ∨ err = 0) ∧ (b = true → N1.length ≤ 900 ∧ N2.length ≤ 900) ∧ Below w.heap.size w w'

def InvSays (b : Bool) (F : FuncId) (Q : List Qt) (t : List UInt8) (N : List Pt) (err : Int) : Prop :=
  ∀ w x, QsAt w x Q → CapOk x → Calls Try.prog F #[x, .string (bs t)] w fun e w' => ∃ lv, e = .returned (.tuple #[lv, .int .i64 err]) ∧ w'.ownsRow w.heap.size 45 3 lv N.length (rowOf N) ∧ (lv = .slice none 0 0 ∨ err = 0) ∧ (b = true → N.length ≤ 900) ∧ Below w.heap.size w w'

theorem nil_own (w : World) (base : Nat) : w.ownsRow base 45 3 (.slice none 0 0) ([] : List Pt).length (rowOf []) := ⟨rfl, .inl ⟨rfl, rfl⟩⟩

set_option maxHeartbeats 400000 in
theorem Compose_err1 (QA QB : List Qt) (n : Int) (hL : QA.length ≤ 9223372036854775806) (hr : ∀ q ∈ QA, q.text.length ≤ 9223372036854775806) (hn1 : -9223372036854775808 ≤ n) (hn2 : n ≤ 9223372036854775807) (he : errQ QA n ≠ 0) :
    CompSays true 19 QA QB n [] (errQ QA n) := by
  intro w v v' hp _ hp' _
  have HP : Hid (QsAt w v QA ∧ ∀ q ∈ QA, q.text.length ≤ 9223372036854775806) := ⟨hp, hr⟩
  obtain ⟨ao, cap, rfl, hc⟩ := hp
  obtain ⟨ao', cap', rfl, hc'⟩ := hp'
  have hb : (errQ QA n != 0) = true := by rw [bne_iff_ne]; exact he
  obtain ⟨E, hE⟩ : ∃ E, E = errQ QA n := ⟨_, rfl⟩
  rw [← hE] at hb ⊢
  have HE : Hid (E = errQ QA n) := hE
  clear hc hc' hr he hE
  go_enter Try.func19, Try.ntmps19
  go_wp2_with fail
  refine (errorOf_any _ QA n _ HP.out.1 hL HP.out.2 hn1 hn2).mono ?_
  rintro e w1 ⟨rfl, hb1⟩
  rw [← HE.out]
  go_wp2
  go_ret2
  exact ⟨_, rfl, nil_own _ _, .inl rfl, fun _ => by simp, hb1⟩

set_option maxHeartbeats 400000 in
theorem Compose_err2 (L : List Pt) (us : List Un) (QB : List Qt) (n : Nat) (hok : OpU L us n) (hL : QB.length ≤ 9223372036854775806) (hr : ∀ q ∈ QB, q.text.length ≤ 9223372036854775806) (he : errQ QB ((n : Int) + dl L) ≠ 0) :
    CompSays true 19 (L.map Pt.q) QB n [] (errQ QB ((n : Int) + dl L)) := by
  intro w v v' hq _ hp' _
  have hp := hq.parts
  have HP : Hid (PartsAt w v L ∧ OpU L us n ∧ QsAt w v' QB ∧ ∀ q ∈ QB, q.text.length ≤ 9223372036854775806) := ⟨hp, hok, hp', hr⟩
  have hn := hok.small
  have hdl : -1000000 ≤ (n : Int) + dl L ∧ (n : Int) + dl L ≤ 1000000000 := by
    rw [hok.reads.dl]
    have h1 := hok.fits
    have h2 := hok.bytes
    have h3 : outU us ≤ inU us + bytesU us := by
      have hu := hok.reads.ok
      clear hp hq hp' HP he
      generalize us = l at hu
      induction l with
      | nil => simp [outU]
      | cons u l ih =>
        have := ih hu.tail
        cases u with
        | k => simp only [outU, inU, bytesU]; omega
        | d => simp only [outU, inU, bytesU]; omega
        | i c => have h1 := (hu (.i c) (by simp) : IsCh c).1; simp only [outU, inU, bytesU]; omega
    omega
  obtain ⟨ao, cap, rfl, hc⟩ := hp
  obtain ⟨ao', cap', rfl, hc'⟩ := hp'
  obtain ⟨m, hm⟩ : ∃ m, m = (n : Int) + dl L := ⟨_, rfl⟩
  have HM : Hid (m = (n : Int) + dl L) := hm
  rw [← hm] at hdl he ⊢
  have hb : (errQ QB m != 0) = true := by rw [bne_iff_ne]; exact he
  obtain ⟨E, hE⟩ : ∃ E, E = errQ QB m := ⟨_, rfl⟩
  rw [← hE] at hb ⊢
  have HE : Hid (E = errQ QB m) := hE
  clear hok hc hc' hq hr he hE hm
  go_enter Try.func19, Try.ntmps19
  go_wp2_with fail
  refine (errorOf_ok _ L n _ HP.out.1 HP.out.2.1.ok).mono ?_
  rintro e w1 ⟨rfl, hb1⟩
  go_wp2_with fail
  refine (left_any _ L n _ (HP.out.1.below hb1 (Nat.le_refl _)) (by have := HP.out.2.1.len; omega) HP.out.2.1.ok.right (fun p hp => ⟨(HP.out.2.1.reads.valid p hp).1, by have := (HP.out.2.1.reads.valid p hp).2; have := HP.out.2.1.bytes; omega⟩) hn).mono ?_
  rintro e w2 ⟨rfl, hb2⟩
  rw [← HM.out]
  have HB2 : Hid (Below w.heap.size w w2) := hb1.trans (hb2.mono hb1.size)
  clear hb1 hb2
  go_wp2_with fail
  refine (errorOf_any _ QB m _ (HP.out.2.2.1.below HB2.out (Nat.le_refl _)) hL HP.out.2.2.2 (by omega) (by omega)).mono ?_
  rintro e w3 ⟨rfl, hb3⟩
  rw [← HE.out]
  go_wp2
  go_ret2
  exact ⟨_, rfl, nil_own _ _, .inl rfl, fun _ => by simp, HB2.out.trans (hb3.mono HB2.out.size)⟩

set_option maxHeartbeats 400000 in
theorem Compose_own (A B : List Pt) (us vs : List Un) (n m : Nat) (hok : OpU A us n) (hok' : OpU B vs m) (hm : m + inU us = n + outU us) :
    CompSays true 19 (A.map Pt.q) (B.map Pt.q) n (normU (compU us vs)) 0 := by
  intro w v v' hq hcap hq' hcap'
  have hp := hq.parts
  have hp' := hq'.parts
  have HP : Hid (PartsAt w v A ∧ OpU A us n ∧ CapOk v ∧ PartsAt w v' B ∧ OpU B vs m ∧ CapOk v') := ⟨hp, hok, hcap, hp', hok', hcap'⟩
  have hdl : (n : Int) + dl A = m := by rw [hok.reads.dl]; omega
  have HDL : Hid ((n : Int) + dl A = m) := hdl
  have hn := hok.small
  have hA := hok.len
  have hB := hok'.len
  obtain ⟨ao, cap, rfl, hc⟩ := hp
  obtain ⟨ao', cap', rfl, hc'⟩ := hp'
  clear hok hok' hcap hcap' hc hc' hdl hm hq hq'
  go_enter Try.func19, Try.ntmps19
  go_wp2_with fail
  refine (errorOf_ok _ A n _ HP.out.1 HP.out.2.1.ok).mono ?_
  rintro e w1 ⟨rfl, hb1⟩
  go_wp2_with fail
  refine (left_any _ A n _ (HP.out.1.below hb1 (Nat.le_refl _)) (by have := HP.out.2.1.len; omega) HP.out.2.1.ok.right (fun p hp => ⟨(HP.out.2.1.reads.valid p hp).1, by have := (HP.out.2.1.reads.valid p hp).2; have := HP.out.2.1.bytes; omega⟩) hn).mono ?_
  rintro e w2 ⟨rfl, hb2⟩
  rw [HDL.out]
  have HB2 : Hid (Below w.heap.size w w2) := hb1.trans (hb2.mono hb1.size)
  clear hb1 hb2
  go_wp2_with fail
  refine (errorOf_ok _ B m _ (HP.out.2.2.2.1.below HB2.out (Nat.le_refl _)) HP.out.2.2.2.2.1.ok).mono ?_
  rintro e w3 ⟨rfl, hb3⟩
  have HB3 : Hid (Below w.heap.size w w3) := HB2.out.trans (hb3.mono HB2.out.size)
  clear hb3
  go_wp2_with fail
  refine (pCompose_any _ _ A B us vs _ (HP.out.1.below HB3.out (Nat.le_refl _)) HP.out.2.2.1 HP.out.2.1.reads (HP.out.2.2.2.1.below HB3.out (Nat.le_refl _)) HP.out.2.2.2.2.2 HP.out.2.2.2.2.1.reads (by have := HP.out.2.1.len; have := HP.out.2.2.2.2.1.len; omega) (by have := HP.out.2.1.bytes; have := HP.out.2.2.2.2.1.bytes; omega) (by have := HP.out.2.1.units; have := HP.out.2.2.2.2.1.units; omega)).mono ?_
  rintro e w4 ⟨v', rfl, ⟨hp4, hl4⟩, hb4⟩
  go_wp2
  go_ret2
  exact ⟨v', rfl, own_base hp4 HB3.out.size, by simp, fun _ => by omega, HB3.out.trans (hb4.mono HB3.out.size)⟩

set_option maxHeartbeats 400000 in
theorem Transform_err1 (QA QB : List Qt) (n : Int) (hL : QA.length ≤ 9223372036854775806) (hr : ∀ q ∈ QA, q.text.length ≤ 9223372036854775806) (hn1 : -9223372036854775808 ≤ n) (hn2 : n ≤ 9223372036854775807) (he : errQ QA n ≠ 0) :
    TraSays true 20 QA QB n [] [] (errQ QA n) := by
  intro w v v' hp _ hp' _
  have HP : Hid (QsAt w v QA ∧ ∀ q ∈ QA, q.text.length ≤ 9223372036854775806) := ⟨hp, hr⟩
  obtain ⟨ao, cap, rfl, hc⟩ := hp
  obtain ⟨ao', cap', rfl, hc'⟩ := hp'
  have hb : (errQ QA n != 0) = true := by rw [bne_iff_ne]; exact he
  obtain ⟨E, hE⟩ : ∃ E, E = errQ QA n := ⟨_, rfl⟩
  rw [← hE] at hb ⊢
  have HE : Hid (E = errQ QA n) := hE
  clear hc hc' hr he hE
  go_enter Try.func20, Try.ntmps20
  go_wp2_with fail
  refine (errorOf_any _ QA n _ HP.out.1 hL HP.out.2 hn1 hn2).mono ?_
  rintro e w1 ⟨rfl, hb1⟩
  rw [← HE.out]
  go_wp2
  exact bodyPost_ret (v := .tuple #[.slice none 0 0, .slice none 0 0, .int .i64 E]) (by simp [results, Try.results20, go_sem]) rfl ⟨_, _, rfl, ⟨nil_own _ _, nil_own _ _, fun g hg => by cases hg⟩, .inl ⟨rfl, rfl⟩, fun _ => by simp, hb1⟩

set_option maxHeartbeats 400000 in
theorem Transform_err2 (L : List Pt) (us : List Un) (QB : List Qt) (n : Nat) (hok : OpU L us n) (hL : QB.length ≤ 9223372036854775806) (hr : ∀ q ∈ QB, q.text.length ≤ 9223372036854775806) (he : errQ QB n ≠ 0) :
    TraSays true 20 (L.map Pt.q) QB n [] [] (errQ QB n) := by
  intro w v v' hq _ hp' _
  have hp := hq.parts
  have HP : Hid (PartsAt w v L ∧ OpU L us n ∧ QsAt w v' QB ∧ ∀ q ∈ QB, q.text.length ≤ 9223372036854775806) := ⟨hp, hok, hp', hr⟩
  have hn := hok.small
  obtain ⟨ao, cap, rfl, hc⟩ := hp
  obtain ⟨ao', cap', rfl, hc'⟩ := hp'
  have hb : (errQ QB n != 0) = true := by rw [bne_iff_ne]; exact he
  obtain ⟨E, hE⟩ : ∃ E, E = errQ QB n := ⟨_, rfl⟩
  rw [← hE] at hb ⊢
  have HE : Hid (E = errQ QB n) := hE
  clear hok hc hc' hq hr he hE
  go_enter Try.func20, Try.ntmps20
  go_wp2_with fail
  refine (errorOf_ok _ L n _ HP.out.1 HP.out.2.1.ok).mono ?_
  rintro e w1 ⟨rfl, hb1⟩
  go_wp2_with fail
  refine (errorOf_any _ QB n _ (HP.out.2.2.1.below hb1 (Nat.le_refl _)) hL HP.out.2.2.2 (by omega) (by omega)).mono ?_
  rintro e w3 ⟨rfl, hb3⟩
  rw [← HE.out]
  go_wp2
  exact bodyPost_ret (v := .tuple #[.slice none 0 0, .slice none 0 0, .int .i64 E]) (by simp [results, Try.results20, go_sem]) rfl ⟨_, _, rfl, ⟨nil_own _ _, nil_own _ _, fun g hg => by cases hg⟩, .inl ⟨rfl, rfl⟩, fun _ => by simp, hb1.trans (hb3.mono hb1.size)⟩

set_option maxHeartbeats 400000 in
theorem Transform_own (A B : List Pt) (us vs xs ys : List Un) (n : Nat) (hok : OpU A us n) (hok' : OpU B vs n) (hx : Reads (normU us) xs) (hy : Reads (normU vs) ys) :
    TraSays true 20 (A.map Pt.q) (B.map Pt.q) n (normU (traU xs ys).1) (normU (traU xs ys).2) 0 := by
  intro w v v' hq hcap hq' hcap'
  have hp := hq.parts
  have hp' := hq'.parts
  have HP : Hid (PartsAt w v A ∧ OpU A us n ∧ CapOk v ∧ PartsAt w v' B ∧ OpU B vs n ∧ CapOk v' ∧ Reads (normU us) xs ∧ Reads (normU vs) ys) := ⟨hp, hok, hcap, hp', hok', hcap', hx, hy⟩
  have HU : Hid (xs.length + ys.length ≤ 400000000 ∧ bytesU xs + bytesU ys ≤ 200000000) := by
    have a1 := normU_nums us hok.reads.ok
    have a2 := normU_nums vs hok'.reads.ok
    rw [hx.nums.1] at a1
    rw [hy.nums.1] at a2
    have b1 := norm_bytes hx
    have b2 := norm_bytes hy
    have c1 := len_units xs hx.ok
    have c2 := len_units ys hy.ok
    have d1 := hok.fits; have d2 := hok'.fits; have d3 := hok.small; have d4 := hok.bytes; have d5 := hok'.bytes
    exact ⟨by omega, by omega⟩
  have hA := hok.len
  have hB := hok'.len
  obtain ⟨ao, cap, rfl, hc⟩ := hp
  obtain ⟨ao', cap', rfl, hc'⟩ := hp'
  clear hok hok' hcap hcap' hc hc' hx hy hq hq'
  go_enter Try.func20, Try.ntmps20
  go_wp2_with fail
  refine (errorOf_ok _ A n _ HP.out.1 HP.out.2.1.ok).mono ?_
  rintro e w1 ⟨rfl, hb1⟩
  go_wp2_with fail
  refine (errorOf_ok _ B n _ (HP.out.2.2.2.1.below hb1 (Nat.le_refl _)) HP.out.2.2.2.2.1.ok).mono ?_
  rintro e w2 ⟨rfl, hb2⟩
  have HB2 : Hid (Below w.heap.size w w2) := hb1.trans (hb2.mono hb1.size)
  clear hb1 hb2
  go_wp2_with fail
  refine (pTransform_two _ _ A B us vs xs ys _ (HP.out.1.below HB2.out (Nat.le_refl _)) HP.out.2.2.1 HP.out.2.1.reads (HP.out.2.2.2.1.below HB2.out (Nat.le_refl _)) HP.out.2.2.2.2.2.1 HP.out.2.2.2.2.1.reads (by have := HP.out.2.1.len; have := HP.out.2.2.2.2.1.len; omega) (by have := HP.out.2.1.bytes; have := HP.out.2.2.2.2.1.bytes; omega) (by have := HP.out.2.1.units; have := HP.out.2.2.2.2.1.units; omega) HP.out.2.2.2.2.2.2.1 HP.out.2.2.2.2.2.2.2 (by have := HU.out; omega) (by have := HU.out; omega)).mono ?_
  rintro e w3 ⟨v1, v2, rfl, ⟨h1, h2, h3⟩, l1, l2, hb3⟩
  have H12 : Hid (TwoNew w w3 v1 v2 (normU (traU xs ys).1) (normU (traU xs ys).2) ∧ (v1 = .slice none 0 0 ∧ v2 = .slice none 0 0 ∨ (0 : Int) = 0) ∧ (true = true → (normU (traU xs ys).1).length ≤ 900 ∧ (normU (traU xs ys).2).length ≤ 900) ∧ Below w.heap.size w w3) := ⟨⟨own_base h1 HB2.out.size, own_base h2 HB2.out.size, h3⟩, .inr rfl, fun _ => ⟨by omega, by omega⟩, HB2.out.trans (hb3.mono HB2.out.size)⟩
  obtain ⟨o1, q1, rfl, _⟩ := parts_of_row h1
  obtain ⟨o2, q2, rfl, _⟩ := parts_of_row h2
  clear h1 h2 h3 hb3 l1 l2
  go_wp2
  exact bodyPost_ret (v := .tuple #[.slice o1 (normU (traU xs ys).1).length q1, .slice o2 (normU (traU xs ys).2).length q2, .int .i64 0]) (by simp [results, Try.results20, go_sem]) rfl ⟨_, _, rfl, H12.out⟩

set_option maxHeartbeats 400000 in
theorem Invert_bad (Q : List Qt) (t : List UInt8) (ht : t.length ≤ 9223372036854775806) (he : isText t = false) : InvSays true 21 Q t [] 2 := by
  intro w v hp _
  have HE : Hid (QsAt w v Q ∧ isText t = false) := ⟨hp, he⟩
  obtain ⟨ao, cap, rfl, hc⟩ := hp
  clear hc he
  go_enter Try.func21, Try.ntmps21
  go_wp2_with fail
  refine (errorOn_bad _ Q t _ HE.out.1 ht HE.out.2).mono ?_
  rintro e w1 ⟨rfl, hb1⟩
  go_wp2
  go_ret2
  exact ⟨_, rfl, nil_own _ _, .inl rfl, fun _ => by simp, hb1⟩

set_option maxHeartbeats 400000 in
theorem Invert_err (Q : List Qt) (t : List UInt8) (hL : Q.length ≤ 9223372036854775806) (hr : ∀ q ∈ Q, q.text.length ≤ 9223372036854775806) (ht : t.length ≤ 9223372036854775806) (htx : isText t = true) (he : errQ Q (charsL t).length ≠ 0) :
    InvSays true 21 Q t [] (errQ Q (charsL t).length) := by
  intro w v hp _
  have HP : Hid (QsAt w v Q ∧ (∀ q ∈ Q, q.text.length ≤ 9223372036854775806) ∧ isText t = true) := ⟨hp, hr, htx⟩
  obtain ⟨ao, cap, rfl, hc⟩ := hp
  have hb : (errQ Q (charsL t).length != 0) = true := by rw [bne_iff_ne]; exact he
  obtain ⟨E, hE⟩ : ∃ E, E = errQ Q (charsL t).length := ⟨_, rfl⟩
  rw [← hE] at hb ⊢
  have HE : Hid (E = errQ Q (charsL t).length) := hE
  clear hc hr he htx hE
  go_enter Try.func21, Try.ntmps21
  go_wp2_with fail
  refine (errorOn_any _ Q t _ HP.out.1 hL HP.out.2.1 ht HP.out.2.2).mono ?_
  rintro e w1 ⟨rfl, hb1⟩
  rw [← HE.out]
  go_wp2
  go_ret2
  exact ⟨_, rfl, nil_own _ _, .inl rfl, fun _ => by simp, hb1⟩

set_option maxHeartbeats 400000 in
theorem Invert_own (L : List Pt) (us : List Un) (cs : List (List UInt8)) (hok : OpU L us cs.length) (hch : ∀ c ∈ cs, IsCh c) (hcl : cs.flatten.length ≤ 100000000) :
    InvSays true 21 (L.map Pt.q) cs.flatten (normU (invU us cs)) 0 := by
  intro w v hq hcap
  have hp := hq.parts
  have HP : Hid (PartsAt w v L ∧ OpU L us cs.length ∧ CapOk v ∧ ∀ c ∈ cs, IsCh c) := ⟨hp, hok, hcap, hch⟩
  have hA := hok.len
  obtain ⟨ao, cap, rfl, hc⟩ := hp
  clear hok hc hch hcap hq
  go_enter Try.func21, Try.ntmps21
  go_wp2_with fail
  refine (errorOn_ok _ L us cs _ HP.out.1 HP.out.2.1 HP.out.2.2.2 (by omega)).mono ?_
  rintro e w1 ⟨rfl, hb1⟩
  go_wp2_with fail
  refine (pInvert_any _ L us cs _ (HP.out.1.below hb1 (Nat.le_refl _)) HP.out.2.2.1 HP.out.2.1.reads (by have := HP.out.2.1.len; omega) (by have := HP.out.2.1.bytes; omega) (by have := HP.out.2.1.units; omega) HP.out.2.2.2 (by omega)).mono ?_
  rintro e w2 ⟨v', rfl, ⟨hp2, hl2⟩, hb2⟩
  go_wp2
  go_ret2
  exact ⟨v', rfl, own_base hp2 hb1.size, by simp, fun _ => by omega, hb1.trans (hb2.mono hb1.size)⟩

theorem settR_chX : ∀ (G : List Bool) (l : List (List (List UInt8))), ChX l → ChX (settR G l)
  | [], l, h => by simpa [settR] using h
  | b :: G, [], h => by simpa [settR] using h
  | b :: G, x :: r, h => by
    have ih := settR_chX G r (fun m hm => h m (by simp [hm]))
    simp only [settR]
    cases b
    · simp only [Bool.false_eq_true, if_false]
      intro m hm
      rcases List.mem_cons.1 hm with e | e
      · rw [e]; exact h x (by simp)
      · exact ih m e
    · simp only [if_true]
      cases hs : settR G r with
      | nil => intro m hm; simp at hm; subst hm; exact h m (by simp)
      | cons y r' =>
        rw [hs] at ih
        intro m hm c hc
        simp only [List.mem_cons] at hm
        rcases hm with e | e | e
        · subst e
          rcases List.mem_append.1 hc with k | k
          · exact h x (by simp) c k
          · exact ih y (by simp) c k
        · subst e; simp at hc
        · exact ih m (by simp [e]) c hc

theorem ne_of_chX {X : List (List (List UInt8))} (h : ChX X) : NE X := fun x hx c hc e => by
  have := (h x hx c hc).1
  rw [e] at this
  simp at this

theorem I_inj {a b : List UInt8} (h : I a = I b) : a = b := by simpa [I] using h

theorem Laid.chX {L : List Pt} {m a T : Nat} {G : List Bool} {X : List (List (List UInt8))} (h : Laid (unitsOf L) m a T G X) : ChX X := by
  have hl : X.length = G.length + 1 := by rw [h.xl, h.gl]
  refine chX_of_units G X hl fun u hu => ?_
  cases u with
  | k => trivial
  | d => trivial
  | i c =>
    have hm : Un.pt (.i c) ∈ Go.Proofs.Ytpiankiacbghcaa.units G X := by
      rw [← unitsN_pt]
      exact List.mem_map_of_mem hu
    rw [h.all] at hm
    rcases List.mem_append.1 hm with h1 | h1
    · obtain ⟨l, hl1, hl2⟩ := List.mem_flatten.1 h1
      obtain ⟨p, _, rfl⟩ := List.mem_map.1 hl1
      simp only [uP] at hl2
      split at hl2
      · have e := (List.mem_replicate.1 hl2).2
        simp [Un.pt, I, K] at e
      · split at hl2
        · obtain ⟨c', hc', e⟩ := List.mem_map.1 hl2
          have := I_inj e
          subst this
          exact text_chars _ c' hc'
        · have e := (List.mem_replicate.1 hl2).2
          simp [Un.pt, I, D] at e
    · have e := (List.mem_replicate.1 h1).2
      simp [Un.pt, I, K] at e

/-- an operation as the document reads it. -/
structure DocOp (us : List Un) (n : Nat) (G : List Bool) (X : List (List (List UInt8))) : Prop where
  gl : G.length = n
  xl : X.length = G.length + 1
  ch : ChX X
  set : SetOK G X
  nrm : normU (unitsN G X) = normU us
  byt : bytesU (unitsN G X) ≤ 2000000

theorem DocOp.tot {us : List Un} {n : Nat} {G : List Bool} {X : List (List (List UInt8))} (h : DocOp us n G X) : total X ≤ 2000000 :=
  Nat.le_trans (total_units h.xl (unitsN_ok G X h.ch)).1 h.byt

theorem docOp_of {L : List Pt} {us : List Un} {m : Nat} {G : List Bool} {X : List (List (List UInt8))} (h : Laid (unitsOf L) m (nums L) (tlen L) G X) (hr : ∀ p ∈ L, Right p) (ht : ∀ p ∈ L, isText p.text = true) (hus : Reads L us) (hf : tlen L ≤ 2000000) : DocOp us m G (settR G X) := by
  have hl : X.length = G.length + 1 := by rw [h.xl, h.gl]
  have hl2 := settR_length G X hl
  have hch := settR_chX G X h.chX
  refine ⟨h.gl, hl2, hch, settR_ok G X hl, ?_, ?_⟩
  · rw [normU_units, norm_of_steps (settR_steps G X hl), ← hus.norm]
    have hu := h.all
    rw [unitsOf_all] at hu
    refine units_norm (by simp) hr ?_ hu
    intro x hx hk
    obtain ⟨i, hi, rfl⟩ := List.getElem_of_mem hx
    simp only [List.getElem_zip, List.getElem_map]
    exact text_eq (ht _ (List.getElem_mem _))
  · rw [← (total_units hl2 (unitsN_ok G _ hch)).2]
    have h1 := settR_bytes G X
    have h2 := h.byt
    omega

theorem parts_two (G : List Bool) (X : List (List (List UInt8))) (hl : X.length = G.length + 1) (hne : NE X) : dropKeep ((units G (settR G (settR G X))).foldl withP []) = normU (unitsN G X) := by
  have hl2 := settR_length G X hl
  rw [parts_units G _ (settR_ok G _ hl2) (settR_ne G _ (settR_ne G _ hne)), norm_of_steps (settR_steps G _ hl2), norm_of_steps (settR_steps G X hl), normU_units]
theorem parts_one (G : List Bool) (X : List (List (List UInt8))) (hl : X.length = G.length + 1) (hne : NE X) : dropKeep ((units G (settR G X)).foldl withP []) = normU (unitsN G X) := by
  rw [parts_units G _ (settR_ok G _ hl) (settR_ne G _ hne), norm_of_steps (settR_steps G X hl), normU_units]

/-- sizes, out of the units. -/
theorem sizes_units {G : List Bool} {X : List (List (List UInt8))} (hl : X.length = G.length + 1) (hn : G.length ≤ 5000000) (ho : OkU (unitsN G X)) (hb : bytesU (unitsN G X) ≤ 10000000) : Sizes G X ∧ Sizes G (settR G X) ∧ Sizes G (settR G (settR G X)) := by
  have h := total_units hl ho
  have hl2 := settR_length G X hl
  have hl3 := settR_length G _ hl2
  have t1 := settR_total G X
  have t2 := settR_total G (settR G X)
  have b1 := settR_bytes G X
  have b2 := settR_bytes G (settR G X)
  exact ⟨⟨hl, hn, by omega, by omega⟩, ⟨hl2, hn, by omega, by omega⟩, ⟨hl3, hn, by omega, by omega⟩⟩

theorem out_same {a b : List Un} {n : Nat} (h : Eqv a b) (ha : inU a ≤ n) (hb : inU b ≤ n) : n + outU a + inU b = n + outU b + inU a := by
  have h1 := applyU_length a (List.replicate n []) (by simpa using ha)
  have h2 := applyU_length b (List.replicate n []) (by simpa using hb)
  rw [h.apply] at h1
  simp only [List.length_replicate] at h1 h2
  omega

theorem DocOp.eqv {us : List Un} {n : Nat} {G : List Bool} {X : List (List (List UInt8))} (h : DocOp us n G X) (hu : OkU us) : Eqv (unitsN G X) us := eqv_of_norm (unitsN_ok G X h.ch) hu h.nrm

theorem DocOp.left {us : List Un} {n m : Nat} {G : List Bool} {X : List (List (List UInt8))} (h : DocOp us n G X) (hu : OkU us) (hi : inU us ≤ n) (hm : m + inU us = n + outU us) : keptN G + total X = m ∧ outU (unitsN G X) = m := by
  obtain ⟨h1, h2⟩ := outU_units G X h.xl
  have h3 := h.gl
  have h4 := out_same (h.eqv hu) (n := n) (by omega) hi
  have h5 : outU (unitsN G X) = keptN G + total X := h1
  omega

/-- what comes of what was laid, and of what it stands for. -/
theorem parts_doc {G : List Bool} {X : List (List (List UInt8))} {N : List Un} (hl : X.length = G.length + 1) (ho : OkU (unitsN G X)) (h : normU (unitsN G X) = normU N) : dropKeep ((units G (settR G (settR G X))).foldl withP []) = normU N := by
  rw [parts_two G X hl (ne_of_chX (chX_of_units G X hl ho)), h]

end Go.Proofs.Ytpiankiacbghcaa
