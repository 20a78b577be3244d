/-
  package ops at operations without errors: errorOn, left, Normal, Apply, Compose, Invert.
-/
import Derived.Test.YtgoaihpaajchaaaAlg7
namespace Go.Proofs.Ytgoaihpaajchaaa
open Go.RowKit

/-- an operation on a text of n characters that has no errors, by its units. -/
structure OpU (L : List Pt) (us : List Un) (n : Nat) : Prop where
  reads : Reads L us
  len : L.length ≤ 40
  fits : inU us ≤ n
  small : n ≤ 1000000
  bytes : bytesU us ≤ 100000000

theorem Reads.right {L : List Pt} {us : List Un} (h : Reads L us) : inU us ≤ 1000000 → ∀ p ∈ L, Right p := by
  induction h with
  | nil => intro _ p hp; cases hp
  | k n hn _ ih =>
    intro hi p hp
    rw [inU_append, (repk_nums n).1] at hi
    rcases List.mem_cons.1 hp with rfl | e
    · exact .inl ⟨rfl, hn, by show n ≤ _; omega, rfl⟩
    · exact ih (by omega) p e
  | d n hn _ ih =>
    intro hi p hp
    rw [inU_append, (repd_nums n).1] at hi
    rcases List.mem_cons.1 hp with rfl | e
    · exact .inr (.inr ⟨rfl, hn, by show n ≤ _; omega, rfl⟩)
    · exact ih (by omega) p e
  | i cs hc hne _ ih =>
    intro hi p hp
    rw [inU_append, (is_nums cs).1] at hi
    rcases List.mem_cons.1 hp with rfl | e
    · exact .inr (.inl ⟨rfl, rfl, fun e => hne (chs_nil hc e)⟩)
    · exact ih (by omega) p e
theorem Reads.valid {L : List Pt} {us : List Un} (h : Reads L us) : ∀ p ∈ L, ValidT p.text ∧ p.text.length ≤ bytesU us := by
  induction h with
  | nil => intro p hp; cases hp
  | k n hn _ ih =>
    intro p hp
    rw [bytesU_append]
    rcases List.mem_cons.1 hp with rfl | e
    · exact ⟨ValidT.nil, Nat.zero_le _⟩
    · have := ih p e; exact ⟨this.1, by omega⟩
  | d n hn _ ih =>
    intro p hp
    rw [bytesU_append]
    rcases List.mem_cons.1 hp with rfl | e
    · exact ⟨ValidT.nil, Nat.zero_le _⟩
    · have := ih p e; exact ⟨this.1, by omega⟩
  | i cs hc hne _ ih =>
    intro p hp
    rw [bytesU_append, (is_nums cs).2.2]
    rcases List.mem_cons.1 hp with rfl | e
    · exact ⟨⟨cs, hc, rfl⟩, by show cs.flatten.length ≤ _; omega⟩
    · have := ih p e; exact ⟨this.1, by omega⟩
theorem len_units (us : List Un) (h : OkU us) : us.length ≤ inU us + bytesU us := by
  induction us with
  | nil => simp
  | cons u us ih =>
    have := ih h.tail
    cases u with
    | k => simp only [List.length_cons, inU, bytesU]; omega
    | d => simp only [List.length_cons, inU, bytesU]; omega
    | i c => have h1 := (h (.i c) (by simp) : IsCh c).1; simp only [List.length_cons, inU, bytesU]; omega

theorem OpU.ok {L : List Pt} {us : List Un} {n : Nat} (h : OpU L us n) : OkOp L n :=
  ⟨h.len, h.reads.right (by have := h.fits; have := h.small; omega), fun p hp => ⟨(h.reads.valid p hp).1, by have := (h.reads.valid p hp).2; have := h.bytes; omega⟩, by rw [h.reads.nums.1]; exact h.fits, h.small⟩
theorem OpU.units {L : List Pt} {us : List Un} {n : Nat} (h : OpU L us n) : us.length ≤ 101000000 := by
  have := len_units us h.reads.ok; have := h.fits; have := h.small; have := h.bytes; omega

def dlP (p : Pt) : Int := if p.kind = 2 then leads p.text else if p.kind = 3 then -(p.num : Int) else 0
def dl (L : List Pt) : Int := (L.map dlP).sum
theorem Reads.dl {L : List Pt} {us : List Un} (h : Reads L us) : Go.Proofs.Ytgoaihpaajchaaa.dl L = (outU us : Int) - inU us := by
  induction h with
  | nil => simp [Go.Proofs.Ytgoaihpaajchaaa.dl, outU, inU]
  | k n hn _ ih => have h1 := repk_nums n; rw [inU_append, outU_append]; simp only [Go.Proofs.Ytgoaihpaajchaaa.dl, List.map_cons, List.sum_cons] at *; rw [show dlP (K n) = 0 from rfl]; omega
  | d n hn _ ih => have h1 := repd_nums n; rw [inU_append, outU_append]; simp only [Go.Proofs.Ytgoaihpaajchaaa.dl, List.map_cons, List.sum_cons] at *; rw [show dlP (D n) = -(n : Int) from rfl]; omega
  | i cs hc hne _ ih => have h1 := is_nums cs; rw [inU_append, outU_append]; simp only [Go.Proofs.Ytgoaihpaajchaaa.dl, List.map_cons, List.sum_cons] at *; rw [show dlP (I cs.flatten) = (leads cs.flatten : Int) from rfl, leads_chars cs hc]; omega
theorem dl_succ (L : List Pt) (k : Nat) (h : k < L.length) : dl (L.take (k + 1)) = dl (L.take k) + dlP L[k] := by
  rw [List.take_succ_eq_append_getElem h, dl, dl, List.map_append, List.sum_append]; simp

set_option maxHeartbeats 400000 in
theorem left_any (v : Value) (L : List Pt) (n : Nat) (w : World) (hp : PartsAt w v L) (hL : L.length ≤ 1000) (hr : ∀ p ∈ L, Right p) (hv : ∀ p ∈ L, ValidT p.text ∧ p.text.length ≤ 100000000) (hn : n ≤ 1000000) :
    Calls Try.prog 25 #[v, .int .i64 n] w fun e w' => e = .returned (.int .i64 (n + dl L)) ∧ Below w.heap.size w w' := by
  obtain ⟨ao, cap, rfl, hc⟩ := hp
  have HRV : Hid ((∀ p ∈ L, Right p) ∧ ∀ p ∈ L, ValidT p.text ∧ p.text.length ≤ 100000000) := ⟨hr, hv⟩
  clear hr hv
  go_enter Try.func25, Try.ntmps25
  go_wp2
  go_loopw [1, 11] (fun s i wr => ∃ (k : Nat) (z : Int), k ≤ L.length ∧ i = .int .i64 k ∧ s = .int .i64 z ∧ Hid (z = n + dl (L.take k)) ∧ -((k : Int) * 100000000) ≤ z ∧ z ≤ 1000000 + (k : Int) * 100000000 ∧ Below w.heap.size w wr) (fun _ i _ => L.length - (intOf i).toNat)
  case atStart => exact ⟨0, n, Nat.zero_le _, rfl, rfl, by show _ = _; simp [dl], by omega, by omega, Below.refl _ _⟩
  case round =>
    obtain ⟨k, z, hk, rfl, rfl, hz, hz1, hz2, hB⟩ := hrel
    by_cases hlt : k < L.length
    · obtain ⟨b, off, rfl, hbl, hcc⟩ := hc (by omega)
      obtain ⟨c0, c1, c2⟩ := hcc k hlt
      rw [← hB.cell (p := ⟨b, _, none⟩) hbl] at c0 c1 c2
      have hzs := hB.size
      have HN : Hid ((n : Int) + dl (L.take (k + 1)) = z + dlP L[k]) := by show _ = _; rw [dl_succ L k hlt, hz.out]; omega
      obtain ⟨⟨cs, hch, hcs⟩, hl⟩ := HRV.out.2 L[k] (List.getElem_mem hlt)
      have hl2 : cs.length ≤ 100000000 := by
        have h1 := leads_chars cs hch
        have h2 := leads_le cs.flatten
        rw [hcs] at hl; omega
      have HC : Hid (L[k].text = cs.flatten ∧ (∀ c ∈ cs, IsCh c) ∧ L[k].text.length ≤ 100000000) := ⟨hcs, hch, hl⟩
      clear hcs hch hl hcc
      rcases HRV.out.1 L[k] (List.getElem_mem hlt) with ⟨a1, a2, a3, a4⟩ | ⟨a1, a2, a3⟩ | ⟨a1, a2, a3, a4⟩
      · have HD : Hid (dlP L[k] = 0) := by show _ = _; simp [dlP, a1]
        rw [a1] at c0
        clear a1 a4
        go_wp2
        go_roundw
        case rel => exact ⟨k + 1, z, by omega, by go_num, rfl, by show _ = _; rw [HN.out, HD.out]; omega, by omega, by omega, hB.alloc (by omega) _⟩
        case measure => simp [intOf]; omega
      · have HD : Hid (dlP L[k] = cs.length) := by show _ = _; rw [dlP, if_pos a1, HC.out.1, leads_chars cs HC.out.2.1]
        rw [a1] at c0
        clear a1 a2 a3
        go_wp2_with (go_at_call 39; refine (count_ok (bs L[k].text) cs _ (by rw [bs_size]; have := HC.out.2.2; omega) (by rw [bs_data]; exact HC.out.1) HC.out.2.1 (by omega)).mono ?_; rintro e w' ⟨rfl, hb2⟩)
        go_roundw
        case rel => exact ⟨k + 1, z + cs.length, by omega, by go_num, by go_num, by show _ = _; rw [HN.out, HD.out], by omega, by omega, (hB.alloc (by omega) _).trans (hb2.mono (by simp; omega))⟩
        case measure => simp [intOf]; omega
      · have HD : Hid (dlP L[k] = -(L[k].num : Int)) := by show _ = _; rw [dlP, if_neg (by omega), if_pos a1]
        rw [a1] at c0
        clear a1 a4
        go_wp2
        go_roundw
        case rel => exact ⟨k + 1, z - L[k].num, by omega, by go_num, by go_num, by show _ = _; rw [HN.out, HD.out]; omega, by omega, by omega, hB.alloc (by omega) _⟩
        case measure => simp [intOf]; omega
    · go_wp2
      go_ret
      refine ⟨ret_int ?_, hB⟩
      rw [hz.out, List.take_of_length_le (by omega)]

set_option maxHeartbeats 400000 in
theorem errorOn_ok (v : Value) (L : List Pt) (us : List Un) (cs : List (List UInt8)) (w : World) (hp : PartsAt w v L) (hok : OpU L us cs.length) (hch : ∀ c ∈ cs, IsCh c) (hcl : cs.flatten.length ≤ 1000000000) :
    Calls Try.prog 23 #[.string (bs cs.flatten), v] w fun e w' => e = .returned (.int .i64 0) ∧ Below w.heap.size w w' := by
  have HP : Hid (PartsAt w v L ∧ OpU L us cs.length ∧ ∀ c ∈ cs, IsCh c) := ⟨hp, hok, hch⟩
  have hcl2 : cs.length ≤ 1000000 := hok.small
  obtain ⟨ao, cap, rfl, hc⟩ := hp
  clear hok hc hch
  go_enter Try.func23, Try.ntmps23
  go_wp2_with fail
  refine (count_ok (bs cs.flatten) cs _ (by rw [bs_size]; omega) (bs_data _) HP.out.2.2 (by omega)).mono ?_
  rintro e w1 ⟨rfl, hb1⟩
  go_wp2_with fail
  refine (errorOf_ok _ L cs.length _ (HP.out.1.below hb1 (Nat.le_refl _)) HP.out.2.1.ok).mono ?_
  rintro e w2 ⟨rfl, hb2⟩
  go_wp2
  go_ret
  exact ⟨rfl, hb1.trans (hb2.mono hb1.size)⟩

theorem settle_bytes (w : Wr) : ((w.settle.done).map (fun p => p.text.length)).sum + w.settle.put.length = ((w.done).map (fun p => p.text.length)).sum + w.put.length := by
  have hk : ∀ n, ((kp n).map (fun p => p.text.length)).sum = 0 := fun n => by unfold kp; split <;> simp [K]
  have hd : ∀ n, ((dp n).map (fun p => p.text.length)).sum = 0 := fun n => by unfold dp; split <;> simp [D]
  have hi : ∀ t, ((ip t).map (fun p => p.text.length)).sum = t.length := fun t => by unfold ip; split <;> simp_all [I]
  unfold Wr.settle
  split
  · rfl
  · simp [hk, hd, hi]
theorem steps_bytes (L : List Pt) : ∀ w : Wr, (((Go.Proofs.Ytgoaihpaajchaaa.steps w L).done).map (fun p => p.text.length)).sum + (Go.Proofs.Ytgoaihpaajchaaa.steps w L).put.length ≤ ((w.done).map (fun p => p.text.length)).sum + w.put.length + (L.map (fun p => p.text.length)).sum := by
  induction L with
  | nil => intro w; simp [Go.Proofs.Ytgoaihpaajchaaa.steps]
  | cons p L ih =>
    intro w
    have := ih (w.step p)
    rw [show Go.Proofs.Ytgoaihpaajchaaa.steps w (p :: L) = Go.Proofs.Ytgoaihpaajchaaa.steps (w.step p) L from rfl]
    have h2 : (((w.step p).done).map (fun p => p.text.length)).sum + (w.step p).put.length ≤ ((w.done).map (fun p => p.text.length)).sum + w.put.length + p.text.length := by
      unfold Wr.step
      split
      · unfold Wr.keep
        split
        · omega
        · have := settle_bytes w; simp only; omega
      · split
        · simp only [List.length_append]; omega
        · split
          · simp only; omega
          · omega
    simp only [List.map_cons, List.sum_cons]
    omega
theorem norm_bytes {us xs : List Un} (hr : Reads (normU us) xs) : bytesU xs ≤ bytesU us := by
  have key : ∀ (L : List Pt) (w : Wr), (((Go.Proofs.Ytgoaihpaajchaaa.steps w L).done).map (fun p => p.text.length)).sum + (Go.Proofs.Ytgoaihpaajchaaa.steps w L).put.length ≤ ((w.done).map (fun p => p.text.length)).sum + w.put.length + (L.map (fun p => p.text.length)).sum := steps_bytes
  have h1 := key (us.map Un.pt) Wr.new
  have h2 : ((us.map Un.pt).map (fun p => p.text.length)).sum = bytesU us := by
    clear h1 hr key
    induction us with
    | nil => rfl
    | cons u us ih => cases u <;> simp only [List.map_cons, List.sum_cons, bytesU, Un.pt, K, D, I, List.length_nil] at * <;> omega
  have h3 := hr.nums.2
  rw [← h3, normU_eq]
  have h4 := settle_bytes (stU Wr.new us)
  have h5 : (stU Wr.new us) = Go.Proofs.Ytgoaihpaajchaaa.steps Wr.new (us.map Un.pt) := rfl
  rw [h5] at h4 ⊢
  have h6 : ((Wr.new.done).map (fun p => p.text.length)).sum + Wr.new.put.length = 0 := rfl
  omega

/-- what comes out: a new list of parts. -/
def NewParts (w : World) (v : Value) (L : List Pt) (w' : World) : Prop := PartsAt w' v L ∧ CapOk v ∧ Below w.heap.size w w'

set_option maxHeartbeats 400000 in
theorem Normal_ok (v : Value) (L : List Pt) (us : List Un) (n : Nat) (w : World) (hp : PartsAt w v L) (hcap : CapOk v) (hok : OpU L us n) :
    Calls Try.prog 11 #[v, .int .i64 n] w fun e w' => ∃ v', e = .returned (.tuple #[v', .int .i64 0]) ∧ NewParts w v' (normU us) w' ∧ (normU us).length ≤ L.length := by
  have HP : Hid (PartsAt w v L ∧ OpU L us n ∧ CapOk v) := ⟨hp, hok, hcap⟩
  obtain ⟨ao, cap, rfl, hc⟩ := hp
  clear hok hcap hc
  go_enter Try.func11, Try.ntmps11
  go_wp2_with fail
  refine (errorOf_ok _ L n _ HP.out.1 HP.out.2.1.ok).mono ?_
  rintro e w1 ⟨rfl, hb1⟩
  go_wp2_with fail
  refine (pNormal_any _ L us _ (HP.out.1.below hb1 (Nat.le_refl _)) HP.out.2.2 HP.out.2.1.reads (by have := HP.out.2.1.len; omega) (by have := HP.out.2.1.bytes; omega) (by have := HP.out.2.1.units; omega)).mono ?_
  rintro e w2 ⟨v', rfl, ⟨hp2, hl2⟩, hb2⟩
  go_wp2
  go_ret2
  exact ⟨v', rfl, ⟨parts_of_row hp2, cap_row hp2, hb1.trans (hb2.mono hb1.size)⟩, hl2⟩

theorem applyU_bytes (us : List Un) : ∀ cs : List (List UInt8), (applyU us cs).flatten.length ≤ cs.flatten.length + bytesU us := by
  induction us with
  | nil => intro cs; simp [applyU, bytesU]
  | cons u us ih =>
    intro cs
    have h1 := ih (cs.drop 1)
    have h2 := ih cs
    have h3 : cs.flatten.length = (cs.take 1).flatten.length + (cs.drop 1).flatten.length := by rw [← List.length_append, ← flatten_split]
    cases u with
    | k => simp only [applyU, bytesU, List.flatten_append, List.length_append]; omega
    | d => simp only [applyU, bytesU]; omega
    | i c => simp only [applyU, bytesU, List.flatten_cons, List.length_append]; omega

set_option maxHeartbeats 400000 in
theorem Apply_ok (v : Value) (L : List Pt) (us : List Un) (cs : List (List UInt8)) (w : World) (hp : PartsAt w v L) (hcap : CapOk v) (hok : OpU L us cs.length) (hch : ∀ c ∈ cs, IsCh c) (hcl : cs.flatten.length ≤ 100000000) :
    Calls Try.prog 13 #[.string (bs cs.flatten), v] w fun e w' => e = .returned (.tuple #[.string (bs (applyU us cs).flatten), .int .i64 0]) ∧ Below w.heap.size w w' := by
  have HP : Hid (PartsAt w v L ∧ OpU L us cs.length ∧ CapOk v ∧ ∀ c ∈ cs, IsCh c) := ⟨hp, hok, hcap, hch⟩
  obtain ⟨ao, cap, rfl, hc⟩ := hp
  have hout : (applyU us cs).flatten.length ≤ 200000000 := by have := applyU_bytes us cs; have := hok.bytes; omega
  have HO : Hid ((applyU us cs).flatten.length ≤ 200000000) := hout
  clear hok hc hch hcap hout
  go_enter Try.func13, Try.ntmps13
  go_wp2_with fail
  refine (errorOn_ok _ L us cs _ HP.out.1 HP.out.2.1 HP.out.2.2.2 (by omega)).mono ?_
  rintro e w1 ⟨rfl, hb1⟩
  go_wp2_with fail
  refine (pApply_any _ L us cs _ (HP.out.1.below hb1 (Nat.le_refl _)) HP.out.2.2.1 HP.out.2.1.reads (by have := HP.out.2.1.len; omega) (by have := HP.out.2.1.bytes; omega) (by have := HP.out.2.1.units; omega) HP.out.2.2.2 (by omega) (by have := HO.out; omega)).mono ?_
  rintro e w3 ⟨rfl, hb3⟩
  go_wp2
  go_ret2
  exact ⟨rfl, hb1.trans (hb3.mono hb1.size)⟩

set_option maxHeartbeats 400000 in
theorem Invert_ok (v : Value) (L : List Pt) (us : List Un) (cs : List (List UInt8)) (w : World) (hp : PartsAt w v L) (hcap : CapOk v) (hok : OpU L us cs.length) (hch : ∀ c ∈ cs, IsCh c) (hcl : cs.flatten.length ≤ 100000000) :
    Calls Try.prog 18 #[v, .string (bs cs.flatten)] w fun e w' => ∃ v', e = .returned (.tuple #[v', .int .i64 0]) ∧ NewParts w v' (normU (invU us cs)) w' ∧ (normU (invU us cs)).length ≤ L.length := by
  have HP : Hid (PartsAt w v L ∧ OpU L us cs.length ∧ CapOk v ∧ ∀ c ∈ cs, IsCh c) := ⟨hp, hok, hcap, hch⟩
  obtain ⟨ao, cap, rfl, hc⟩ := hp
  clear hok hc hch hcap
  go_enter Try.func18, Try.ntmps18
  go_wp2_with fail
  refine (errorOn_ok _ L us cs _ HP.out.1 HP.out.2.1 HP.out.2.2.2 (by omega)).mono ?_
  rintro e w1 ⟨rfl, hb1⟩
  go_wp2_with fail
  refine (pInvert_any _ L us cs _ (HP.out.1.below hb1 (Nat.le_refl _)) HP.out.2.2.1 HP.out.2.1.reads (by have := HP.out.2.1.len; omega) (by have := HP.out.2.1.bytes; omega) (by have := HP.out.2.1.units; omega) HP.out.2.2.2 (by omega)).mono ?_
  rintro e w2 ⟨v', rfl, ⟨hp2, hl2⟩, hb2⟩
  go_wp2
  go_ret2
  exact ⟨v', rfl, ⟨parts_of_row hp2, cap_row hp2, hb1.trans (hb2.mono hb1.size)⟩, hl2⟩

set_option maxHeartbeats 400000 in
theorem Compose_ok (v v' : Value) (A B : List Pt) (us vs : List Un) (n m : Nat) (w : World) (hp : PartsAt w v A) (hcap : CapOk v) (hok : OpU A us n) (hp' : PartsAt w v' B) (hcap' : CapOk v') (hok' : OpU B vs m) (hm : m + inU us = n + outU us) :
    Calls Try.prog 16 #[v, v', .int .i64 n] w fun e w' => ∃ v', e = .returned (.tuple #[v', .int .i64 0]) ∧ NewParts w v' (normU (compU us vs)) w' ∧ (normU (compU us vs)).length ≤ A.length + B.length := by
  have HP : Hid (PartsAt w v A ∧ OpU A us n ∧ CapOk v ∧ PartsAt w v' B ∧ OpU B vs m ∧ CapOk v') := ⟨hp, hok, hcap, hp', hok', hcap'⟩
  have hdl : (n : Int) + dl A = m := by rw [hok.reads.dl]; omega
  have HDL : Hid ((n : Int) + dl A = m) := hdl
  have hn := hok.small
  obtain ⟨ao, cap, rfl, hc⟩ := hp
  obtain ⟨ao', cap', rfl, hc'⟩ := hp'
  clear hok hok' hcap hcap' hc hc' hdl hm
  go_enter Try.func16, Try.ntmps16
  go_wp2_with fail
  refine (errorOf_ok _ A n _ HP.out.1 HP.out.2.1.ok).mono ?_
  rintro e w1 ⟨rfl, hb1⟩
  go_wp2_with fail
  refine (left_any _ A n _ (HP.out.1.below hb1 (Nat.le_refl _)) (by have := HP.out.2.1.len; omega) HP.out.2.1.ok.right (fun p hp => ⟨(HP.out.2.1.reads.valid p hp).1, by have := (HP.out.2.1.reads.valid p hp).2; have := HP.out.2.1.bytes; omega⟩) hn).mono ?_
  rintro e w2 ⟨rfl, hb2⟩
  rw [HDL.out]
  have HB2 : Hid (Below w.heap.size w w2) := hb1.trans (hb2.mono hb1.size)
  clear hb1 hb2
  go_wp2_with fail
  refine (errorOf_ok _ B m _ (HP.out.2.2.2.1.below HB2.out (Nat.le_refl _)) HP.out.2.2.2.2.1.ok).mono ?_
  rintro e w3 ⟨rfl, hb3⟩
  have HB3 : Hid (Below w.heap.size w w3) := HB2.out.trans (hb3.mono HB2.out.size)
  clear hb3
  go_wp2_with fail
  refine (pCompose_any _ _ A B us vs _ (HP.out.1.below HB3.out (Nat.le_refl _)) HP.out.2.2.1 HP.out.2.1.reads (HP.out.2.2.2.1.below HB3.out (Nat.le_refl _)) HP.out.2.2.2.2.2 HP.out.2.2.2.2.1.reads (by have := HP.out.2.1.len; have := HP.out.2.2.2.2.1.len; omega) (by have := HP.out.2.1.bytes; have := HP.out.2.2.2.2.1.bytes; omega) (by have := HP.out.2.1.units; have := HP.out.2.2.2.2.1.units; omega)).mono ?_
  rintro e w4 ⟨v', rfl, ⟨hp4, hl4⟩, hb4⟩
  go_wp2
  go_ret2
  exact ⟨v', rfl, ⟨parts_of_row hp4, cap_row hp4, HB3.out.trans (hb4.mono HB3.out.size)⟩, hl4⟩

set_option maxHeartbeats 400000 in
theorem Transform_ok (v v' : Value) (A B : List Pt) (us vs xs ys : List Un) (n : Nat) (w : World) (hp : PartsAt w v A) (hcap : CapOk v) (hok : OpU A us n) (hp' : PartsAt w v' B) (hcap' : CapOk v') (hok' : OpU B vs n) (hx : Reads (normU us) xs) (hy : Reads (normU vs) ys) :
    Calls Try.prog 17 #[v, v', .int .i64 n] w fun e w' => ∃ v1 v2, e = .returned (.tuple #[v1, v2, .int .i64 0]) ∧ (PartsAt w' v1 (normU (traU xs ys).1) ∧ CapOk v1 ∧ (normU (traU xs ys).1).length ≤ A.length + B.length) ∧ (PartsAt w' v2 (normU (traU xs ys).2) ∧ CapOk v2 ∧ (normU (traU xs ys).2).length ≤ A.length + B.length) ∧ Below w.heap.size w w' := by
  have HP : Hid (PartsAt w v A ∧ OpU A us n ∧ CapOk v ∧ PartsAt w v' B ∧ OpU B vs n ∧ CapOk v' ∧ Reads (normU us) xs ∧ Reads (normU vs) ys) := ⟨hp, hok, hcap, hp', hok', hcap', hx, hy⟩
  have HU : Hid (xs.length + ys.length ≤ 400000000 ∧ bytesU xs + bytesU ys ≤ 200000000) := by
    have a1 := normU_nums us hok.reads.ok
    have a2 := normU_nums vs hok'.reads.ok
    rw [hx.nums.1] at a1
    rw [hy.nums.1] at a2
    have b1 := norm_bytes hx
    have b2 := norm_bytes hy
    have c1 := len_units xs hx.ok
    have c2 := len_units ys hy.ok
    have d1 := hok.fits; have d2 := hok'.fits; have d3 := hok.small; have d4 := hok.bytes; have d5 := hok'.bytes
    exact ⟨by omega, by omega⟩
  obtain ⟨ao, cap, rfl, hc⟩ := hp
  obtain ⟨ao', cap', rfl, hc'⟩ := hp'
  clear hok hok' hcap hcap' hc hc' hx hy
  go_enter Try.func17, Try.ntmps17
  go_wp2_with fail
  refine (errorOf_ok _ A n _ HP.out.1 HP.out.2.1.ok).mono ?_
  rintro e w1 ⟨rfl, hb1⟩
  go_wp2_with fail
  refine (errorOf_ok _ B n _ (HP.out.2.2.2.1.below hb1 (Nat.le_refl _)) HP.out.2.2.2.2.1.ok).mono ?_
  rintro e w2 ⟨rfl, hb2⟩
  have HB2 : Hid (Below w.heap.size w w2) := hb1.trans (hb2.mono hb1.size)
  clear hb1 hb2
  go_wp2_with fail
  refine (pTransform_any _ _ A B us vs xs ys _ (HP.out.1.below HB2.out (Nat.le_refl _)) HP.out.2.2.1 HP.out.2.1.reads (HP.out.2.2.2.1.below HB2.out (Nat.le_refl _)) HP.out.2.2.2.2.2.1 HP.out.2.2.2.2.1.reads (by have := HP.out.2.1.len; have := HP.out.2.2.2.2.1.len; omega) (by have := HP.out.2.1.bytes; have := HP.out.2.2.2.2.1.bytes; omega) (by have := HP.out.2.1.units; have := HP.out.2.2.2.2.1.units; omega) HP.out.2.2.2.2.2.2.1 HP.out.2.2.2.2.2.2.2 (by have := HU.out; omega) (by have := HU.out; omega)).mono ?_
  rintro e w3 ⟨v1, v2, rfl, h1, h2, hb3⟩
  have H12 : Hid ((PartsAt w3 v1 (normU (traU xs ys).1) ∧ CapOk v1 ∧ (normU (traU xs ys).1).length ≤ A.length + B.length) ∧ (PartsAt w3 v2 (normU (traU xs ys).2) ∧ CapOk v2 ∧ (normU (traU xs ys).2).length ≤ A.length + B.length) ∧ Below w.heap.size w w3) := ⟨h1, h2, HB2.out.trans (hb3.mono HB2.out.size)⟩
  obtain ⟨o1, q1, rfl, _⟩ := h1.1
  obtain ⟨o2, q2, rfl, _⟩ := h2.1
  clear h1 h2 hb3
  go_wp2
  exact bodyPost_ret (v := .tuple #[.slice o1 (normU (traU xs ys).1).length q1, .slice o2 (normU (traU xs ys).2).length q2, .int .i64 0]) (by simp [results, Try.results17, go_sem]) rfl ⟨_, _, rfl, H12.out⟩

end Go.Proofs.Ytgoaihpaajchaaa
