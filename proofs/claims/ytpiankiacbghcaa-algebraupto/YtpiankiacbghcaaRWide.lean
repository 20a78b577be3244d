/-
  The document's answer: wide.
-/
import Derived.Test.YtpiankiacbghcaaRProg
import Derived.Deep.DeepCutAuto
namespace Go.Proofs.Ytpiankiacbghcaa
open Go.RowKit

theorem lead3_cases (c : Nat) (h : c < 256) :
    c < 128 ∨ (194 ≤ c ∧ c ≤ 223 ∧ lead3 c = (2, 128, 191)) ∨ (c = 224 ∧ lead3 c = (3, 160, 191)) ∨ (225 ≤ c ∧ c ≤ 236 ∧ lead3 c = (3, 128, 191)) ∨ (c = 237 ∧ lead3 c = (3, 128, 159)) ∨ (238 ≤ c ∧ c ≤ 239 ∧ lead3 c = (3, 128, 191))
      ∨ (c = 240 ∧ lead3 c = (4, 144, 191)) ∨ (241 ≤ c ∧ c ≤ 243 ∧ lead3 c = (4, 128, 191)) ∨ (c = 244 ∧ lead3 c = (4, 128, 143)) ∨ (128 ≤ c ∧ c ≤ 193 ∧ lead3 c = (0, 0, 0)) ∨ (245 ≤ c ∧ lead3 c = (0, 0, 0)) := by
  by_cases h0 : c < 128
  · exact .inl h0
  · right
    have key : (194 ≤ c ∧ c ≤ 223) ∨ c = 224 ∨ (225 ≤ c ∧ c ≤ 236) ∨ c = 237 ∨ (238 ≤ c ∧ c ≤ 239) ∨ c = 240 ∨ (241 ≤ c ∧ c ≤ 243) ∨ c = 244 ∨ (128 ≤ c ∧ c ≤ 193) ∨ 245 ≤ c := by omega
    unfold lead3
    rcases key with k | k | k | k | k | k | k | k | k | k
    · rw [if_neg h0, if_pos k]; simp [k]
    · rw [if_neg h0, if_neg (by omega), if_pos k]; simp [k]
    · rw [if_neg h0, if_neg (by omega), if_neg (by omega), if_neg (by omega), if_pos (by omega)]; simp [k]
    · rw [if_neg h0, if_neg (by omega), if_neg (by omega), if_pos k]; simp [k]
    · rw [if_neg h0, if_neg (by omega), if_neg (by omega), if_neg (by omega), if_pos (by omega)]; simp [k]
    · rw [if_neg h0, if_neg (by omega), if_neg (by omega), if_neg (by omega), if_neg (by omega), if_pos k]; simp [k]
    · rw [if_neg h0, if_neg (by omega), if_neg (by omega), if_neg (by omega), if_neg (by omega), if_neg (by omega), if_neg (by omega), if_pos k]; simp [k]
    · rw [if_neg h0, if_neg (by omega), if_neg (by omega), if_neg (by omega), if_neg (by omega), if_neg (by omega), if_pos k]; simp [k]
    · rw [if_neg h0, if_neg (by omega), if_neg (by omega), if_neg (by omega), if_neg (by omega), if_neg (by omega), if_neg (by omega), if_neg (by omega)]; simp [k]
    · rw [if_neg h0, if_neg (by omega), if_neg (by omega), if_neg (by omega), if_neg (by omega), if_neg (by omega), if_neg (by omega), if_neg (by omega)]; simp [k]

set_option maxHeartbeats 4000000 in
set_option maxRecDepth 100000 in
theorem wide_any (s : ByteArray) (at_ : Nat) (w : World) (hs : s.size ≤ 9223372036854775800) (ha : at_ < s.size) :
    Calls Try.prog 109 #[.string s, .int .i64 at_] w fun e w' => e = .returned (.int .i64 (wideL (s.data.toList.drop at_))) ∧ w' = w := by
  have hlen : s.data.toList.length = s.size := by simp
  obtain ⟨R, hR⟩ : ∃ R, R = wideL (s.data.toList.drop at_) := ⟨_, rfl⟩
  rw [← hR]
  have hd : s.data.toList.drop at_ = s[at_] :: s.data.toList.drop (at_ + 1) := List.drop_eq_getElem_cons (by omega)
  have hw : wideL (s[at_] :: s.data.toList.drop (at_ + 1)) = if contB ((lead3 s[at_].toNat).1 - 1) (lead3 s[at_].toNat).2.1 (lead3 s[at_].toNat).2.2 (s.data.toList.drop (at_ + 1)) then (lead3 s[at_].toNat).1 else 0 := rfl
  rw [hd, hw] at hR
  have hb : s[at_].toNat < 256 := s[at_].toNat_lt
  have hk := lead3_cases s[at_].toNat hb
  have HR : Hid (R = if contB ((lead3 s[at_].toNat).1 - 1) (lead3 s[at_].toNat).2.1 (lead3 s[at_].toNat).2.2 (s.data.toList.drop (at_ + 1)) then (lead3 s[at_].toNat).1 else 0) := hR
  clear hR hd hw hlen
  rcases hk with k | k | k | k | k | k | k | k | k | k | k
  · have hr : R = 1 := by
      have : lead3 s[at_].toNat = (1, 0, 0) := by unfold lead3; rw [if_pos k]
      rw [HR.out, this]; rfl
    go_enter Try.func109, Try.ntmps109
    go_wp2
    go_ret
    exact ⟨ret_int (by first | rfl | (rw [hr]; rfl)), rfl⟩
  · obtain ⟨R1, hR1⟩ : ∃ R1, R1 = s.data.toList.drop (at_ + 1) := ⟨_, rfl⟩
    have hr : R = if contB (2 - 1) 128 191 R1 then 2 else 0 := by rw [HR.out, k.2.2, hR1]
    have hlen1 : R1.length + at_ + 1 = s.size := by rw [hR1, List.length_drop]; simp; omega
    have hget : ∀ j (hj : at_ + j < s.size), 1 ≤ j → R1.drop (j - 1) = s[at_ + j] :: R1.drop j := by
      intro j hj h1
      have e : R1.drop (j - 1) = R1[j - 1]'(by omega) :: R1.drop (j - 1 + 1) := List.drop_eq_getElem_cons (by omega)
      rw [e, show j - 1 + 1 = j from by omega]
      congr 1
      subst hR1
      rw [List.getElem_drop]
      have : at_ + 1 + (j - 1) = at_ + j := by omega
      simp only [this]
      rfl
    have HV : Hid (R = if contB (2 - 1) 128 191 R1 then 2 else 0) := hr
    have HG : Hid (∀ j (hj : at_ + j < s.size), 1 ≤ j → R1.drop (j - 1) = s[at_ + j] :: R1.drop j) := hget
    have hl1 : R1.length + at_ + 1 ≤ s.size := by omega
    have hl2 : s.size ≤ R1.length + at_ + 1 := by omega
    clear hr hget hlen1 hR1 HR
    go_enter Try.func109, Try.ntmps109
    go_upto_region 23 with fail
    go_cut [6, 7, 8, 9] from 10 (fun n lo hi i wc => n = .int .i64 2 ∧ lo = .int .u8 128 ∧ hi = .int .u8 191 ∧ i = .int .i64 1 ∧ wc = w)
    case first =>
      go_wp2
      go_meet
      exact ⟨rfl, rfl, rfl, rfl, rfl⟩
    obtain ⟨rfl, rfl, rfl, rfl, rfl⟩ := hcut
    go_wp2
    go_loop [7, 8, 9] (fun lo hi i => ∃ (j l' h' : Nat), 1 ≤ j ∧ j ≤ 2 ∧ i = .int .i64 j ∧ lo = .int .u8 l' ∧ hi = .int .u8 h' ∧ contB (2 - 1) 128 191 R1 = contB (2 - j) l' h' (R1.drop (j - 1))) (fun _ _ i => 2 - (intOf i).toNat)
    case atStart => exact ⟨1, 128, 191, by omega, by omega, rfl, rfl, rfl, rfl⟩
    case round =>
      obtain ⟨j, l', h', hj1, hj2, rfl, rfl, rfl, hrel⟩ := hrel
      have HC : Hid (contB (2 - 1) 128 191 R1 = contB (2 - j) l' h' (R1.drop (j - 1))) := hrel
      clear hrel
      by_cases hjN : j < 2
      · by_cases hin : at_ + j < s.size
        · have hc1 : contB (2 - j) l' h' (R1.drop (j - 1)) = (decide (l' ≤ s[at_ + j].toNat ∧ s[at_ + j].toNat ≤ h') && contB (2 - (j + 1)) 128 191 (R1.drop j)) := by
            rw [HG.out j hin hj1, show 2 - j = (2 - (j + 1)) + 1 from by omega]; rfl
          have HC1 : Hid (contB (2 - j) l' h' (R1.drop (j - 1)) = (decide (l' ≤ s[at_ + j].toNat ∧ s[at_ + j].toNat ≤ h') && contB (2 - (j + 1)) 128 191 (R1.drop j))) := hc1
          clear hc1
          have hin2 : ((at_ : Int) + (j : Int)).toNat = at_ + j := by omega
          by_cases hx1 : ((s[at_ + j].toNat : Nat) : Int) < (l' : Int)
          · have hz : R = 0 := by rw [HV.out, HC.out, HC1.out, decide_eq_false (by omega)]; rfl
            have HZ : Hid (R = 0) := hz
            clear hz
            go_wp2
            go_ret
            exact ⟨ret_int (by rw [HZ.out]; rfl), rfl⟩
          · by_cases hx2 : (h' : Int) < ((s[at_ + j].toNat : Nat) : Int)
            · have hz : R = 0 := by rw [HV.out, HC.out, HC1.out, decide_eq_false (by omega)]; rfl
              have HZ : Hid (R = 0) := hz
              clear hz
              go_wp2
              go_ret
              exact ⟨ret_int (by rw [HZ.out]; rfl), rfl⟩
            · go_wp2
              go_round
              case rel => exact ⟨j + 1, 128, 191, by omega, by omega, by go_num, rfl, rfl, by rw [HC.out, HC1.out, decide_eq_true (by omega)]; simp⟩
              case measure => simp [intOf]; omega
        · have hz : R = 0 := by
            have e : R1.drop (j - 1) = [] := List.drop_eq_nil_of_le (by omega)
            rw [HV.out, HC.out, e, show 2 - j = (2 - (j + 1)) + 1 from by omega]; rfl
          have HZ : Hid (R = 0) := hz
          clear hz
          go_wp2
          go_ret
          exact ⟨ret_int (by rw [HZ.out]; rfl), rfl⟩
      · have hjj : j = 2 := by omega
        have hz : R = 2 := by rw [HV.out, HC.out, hjj]; rfl
        have HZ : Hid (R = 2) := hz
        clear hz
        subst hjj
        go_wp2
        go_ret
        exact ⟨ret_int (by rw [HZ.out]; rfl), rfl⟩
  · obtain ⟨R1, hR1⟩ : ∃ R1, R1 = s.data.toList.drop (at_ + 1) := ⟨_, rfl⟩
    have hr : R = if contB (3 - 1) 160 191 R1 then 3 else 0 := by rw [HR.out, k.2, hR1]
    have hlen1 : R1.length + at_ + 1 = s.size := by rw [hR1, List.length_drop]; simp; omega
    have hget : ∀ j (hj : at_ + j < s.size), 1 ≤ j → R1.drop (j - 1) = s[at_ + j] :: R1.drop j := by
      intro j hj h1
      have e : R1.drop (j - 1) = R1[j - 1]'(by omega) :: R1.drop (j - 1 + 1) := List.drop_eq_getElem_cons (by omega)
      rw [e, show j - 1 + 1 = j from by omega]
      congr 1
      subst hR1
      rw [List.getElem_drop]
      have : at_ + 1 + (j - 1) = at_ + j := by omega
      simp only [this]
      rfl
    have HV : Hid (R = if contB (3 - 1) 160 191 R1 then 3 else 0) := hr
    have HG : Hid (∀ j (hj : at_ + j < s.size), 1 ≤ j → R1.drop (j - 1) = s[at_ + j] :: R1.drop j) := hget
    have hl1 : R1.length + at_ + 1 ≤ s.size := by omega
    have hl2 : s.size ≤ R1.length + at_ + 1 := by omega
    clear hr hget hlen1 hR1 HR
    go_enter Try.func109, Try.ntmps109
    go_upto_region 23 with fail
    go_cut [6, 7, 8, 9] from 10 (fun n lo hi i wc => n = .int .i64 3 ∧ lo = .int .u8 160 ∧ hi = .int .u8 191 ∧ i = .int .i64 1 ∧ wc = w)
    case first =>
      go_wp2
      go_meet
      exact ⟨rfl, rfl, rfl, rfl, rfl⟩
    obtain ⟨rfl, rfl, rfl, rfl, rfl⟩ := hcut
    go_wp2
    go_loop [7, 8, 9] (fun lo hi i => ∃ (j l' h' : Nat), 1 ≤ j ∧ j ≤ 3 ∧ i = .int .i64 j ∧ lo = .int .u8 l' ∧ hi = .int .u8 h' ∧ contB (3 - 1) 160 191 R1 = contB (3 - j) l' h' (R1.drop (j - 1))) (fun _ _ i => 3 - (intOf i).toNat)
    case atStart => exact ⟨1, 160, 191, by omega, by omega, rfl, rfl, rfl, rfl⟩
    case round =>
      obtain ⟨j, l', h', hj1, hj2, rfl, rfl, rfl, hrel⟩ := hrel
      have HC : Hid (contB (3 - 1) 160 191 R1 = contB (3 - j) l' h' (R1.drop (j - 1))) := hrel
      clear hrel
      by_cases hjN : j < 3
      · by_cases hin : at_ + j < s.size
        · have hc1 : contB (3 - j) l' h' (R1.drop (j - 1)) = (decide (l' ≤ s[at_ + j].toNat ∧ s[at_ + j].toNat ≤ h') && contB (3 - (j + 1)) 128 191 (R1.drop j)) := by
            rw [HG.out j hin hj1, show 3 - j = (3 - (j + 1)) + 1 from by omega]; rfl
          have HC1 : Hid (contB (3 - j) l' h' (R1.drop (j - 1)) = (decide (l' ≤ s[at_ + j].toNat ∧ s[at_ + j].toNat ≤ h') && contB (3 - (j + 1)) 128 191 (R1.drop j))) := hc1
          clear hc1
          have hin2 : ((at_ : Int) + (j : Int)).toNat = at_ + j := by omega
          by_cases hx1 : ((s[at_ + j].toNat : Nat) : Int) < (l' : Int)
          · have hz : R = 0 := by rw [HV.out, HC.out, HC1.out, decide_eq_false (by omega)]; rfl
            have HZ : Hid (R = 0) := hz
            clear hz
            go_wp2
            go_ret
            exact ⟨ret_int (by rw [HZ.out]; rfl), rfl⟩
          · by_cases hx2 : (h' : Int) < ((s[at_ + j].toNat : Nat) : Int)
            · have hz : R = 0 := by rw [HV.out, HC.out, HC1.out, decide_eq_false (by omega)]; rfl
              have HZ : Hid (R = 0) := hz
              clear hz
              go_wp2
              go_ret
              exact ⟨ret_int (by rw [HZ.out]; rfl), rfl⟩
            · go_wp2
              go_round
              case rel => exact ⟨j + 1, 128, 191, by omega, by omega, by go_num, rfl, rfl, by rw [HC.out, HC1.out, decide_eq_true (by omega)]; simp⟩
              case measure => simp [intOf]; omega
        · have hz : R = 0 := by
            have e : R1.drop (j - 1) = [] := List.drop_eq_nil_of_le (by omega)
            rw [HV.out, HC.out, e, show 3 - j = (3 - (j + 1)) + 1 from by omega]; rfl
          have HZ : Hid (R = 0) := hz
          clear hz
          go_wp2
          go_ret
          exact ⟨ret_int (by rw [HZ.out]; rfl), rfl⟩
      · have hjj : j = 3 := by omega
        have hz : R = 3 := by rw [HV.out, HC.out, hjj]; rfl
        have HZ : Hid (R = 3) := hz
        clear hz
        subst hjj
        go_wp2
        go_ret
        exact ⟨ret_int (by rw [HZ.out]; rfl), rfl⟩
  · obtain ⟨R1, hR1⟩ : ∃ R1, R1 = s.data.toList.drop (at_ + 1) := ⟨_, rfl⟩
    have hr : R = if contB (3 - 1) 128 191 R1 then 3 else 0 := by rw [HR.out, k.2.2, hR1]
    have hlen1 : R1.length + at_ + 1 = s.size := by rw [hR1, List.length_drop]; simp; omega
    have hget : ∀ j (hj : at_ + j < s.size), 1 ≤ j → R1.drop (j - 1) = s[at_ + j] :: R1.drop j := by
      intro j hj h1
      have e : R1.drop (j - 1) = R1[j - 1]'(by omega) :: R1.drop (j - 1 + 1) := List.drop_eq_getElem_cons (by omega)
      rw [e, show j - 1 + 1 = j from by omega]
      congr 1
      subst hR1
      rw [List.getElem_drop]
      have : at_ + 1 + (j - 1) = at_ + j := by omega
      simp only [this]
      rfl
    have HV : Hid (R = if contB (3 - 1) 128 191 R1 then 3 else 0) := hr
    have HG : Hid (∀ j (hj : at_ + j < s.size), 1 ≤ j → R1.drop (j - 1) = s[at_ + j] :: R1.drop j) := hget
    have hl1 : R1.length + at_ + 1 ≤ s.size := by omega
    have hl2 : s.size ≤ R1.length + at_ + 1 := by omega
    clear hr hget hlen1 hR1 HR
    go_enter Try.func109, Try.ntmps109
    go_upto_region 23 with fail
    go_cut [6, 7, 8, 9] from 10 (fun n lo hi i wc => n = .int .i64 3 ∧ lo = .int .u8 128 ∧ hi = .int .u8 191 ∧ i = .int .i64 1 ∧ wc = w)
    case first =>
      go_wp2
      go_meet
      exact ⟨rfl, rfl, rfl, rfl, rfl⟩
    obtain ⟨rfl, rfl, rfl, rfl, rfl⟩ := hcut
    go_wp2
    go_loop [7, 8, 9] (fun lo hi i => ∃ (j l' h' : Nat), 1 ≤ j ∧ j ≤ 3 ∧ i = .int .i64 j ∧ lo = .int .u8 l' ∧ hi = .int .u8 h' ∧ contB (3 - 1) 128 191 R1 = contB (3 - j) l' h' (R1.drop (j - 1))) (fun _ _ i => 3 - (intOf i).toNat)
    case atStart => exact ⟨1, 128, 191, by omega, by omega, rfl, rfl, rfl, rfl⟩
    case round =>
      obtain ⟨j, l', h', hj1, hj2, rfl, rfl, rfl, hrel⟩ := hrel
      have HC : Hid (contB (3 - 1) 128 191 R1 = contB (3 - j) l' h' (R1.drop (j - 1))) := hrel
      clear hrel
      by_cases hjN : j < 3
      · by_cases hin : at_ + j < s.size
        · have hc1 : contB (3 - j) l' h' (R1.drop (j - 1)) = (decide (l' ≤ s[at_ + j].toNat ∧ s[at_ + j].toNat ≤ h') && contB (3 - (j + 1)) 128 191 (R1.drop j)) := by
            rw [HG.out j hin hj1, show 3 - j = (3 - (j + 1)) + 1 from by omega]; rfl
          have HC1 : Hid (contB (3 - j) l' h' (R1.drop (j - 1)) = (decide (l' ≤ s[at_ + j].toNat ∧ s[at_ + j].toNat ≤ h') && contB (3 - (j + 1)) 128 191 (R1.drop j))) := hc1
          clear hc1
          have hin2 : ((at_ : Int) + (j : Int)).toNat = at_ + j := by omega
          by_cases hx1 : ((s[at_ + j].toNat : Nat) : Int) < (l' : Int)
          · have hz : R = 0 := by rw [HV.out, HC.out, HC1.out, decide_eq_false (by omega)]; rfl
            have HZ : Hid (R = 0) := hz
            clear hz
            go_wp2
            go_ret
            exact ⟨ret_int (by rw [HZ.out]; rfl), rfl⟩
          · by_cases hx2 : (h' : Int) < ((s[at_ + j].toNat : Nat) : Int)
            · have hz : R = 0 := by rw [HV.out, HC.out, HC1.out, decide_eq_false (by omega)]; rfl
              have HZ : Hid (R = 0) := hz
              clear hz
              go_wp2
              go_ret
              exact ⟨ret_int (by rw [HZ.out]; rfl), rfl⟩
            · go_wp2
              go_round
              case rel => exact ⟨j + 1, 128, 191, by omega, by omega, by go_num, rfl, rfl, by rw [HC.out, HC1.out, decide_eq_true (by omega)]; simp⟩
              case measure => simp [intOf]; omega
        · have hz : R = 0 := by
            have e : R1.drop (j - 1) = [] := List.drop_eq_nil_of_le (by omega)
            rw [HV.out, HC.out, e, show 3 - j = (3 - (j + 1)) + 1 from by omega]; rfl
          have HZ : Hid (R = 0) := hz
          clear hz
          go_wp2
          go_ret
          exact ⟨ret_int (by rw [HZ.out]; rfl), rfl⟩
      · have hjj : j = 3 := by omega
        have hz : R = 3 := by rw [HV.out, HC.out, hjj]; rfl
        have HZ : Hid (R = 3) := hz
        clear hz
        subst hjj
        go_wp2
        go_ret
        exact ⟨ret_int (by rw [HZ.out]; rfl), rfl⟩
  · obtain ⟨R1, hR1⟩ : ∃ R1, R1 = s.data.toList.drop (at_ + 1) := ⟨_, rfl⟩
    have hr : R = if contB (3 - 1) 128 159 R1 then 3 else 0 := by rw [HR.out, k.2, hR1]
    have hlen1 : R1.length + at_ + 1 = s.size := by rw [hR1, List.length_drop]; simp; omega
    have hget : ∀ j (hj : at_ + j < s.size), 1 ≤ j → R1.drop (j - 1) = s[at_ + j] :: R1.drop j := by
      intro j hj h1
      have e : R1.drop (j - 1) = R1[j - 1]'(by omega) :: R1.drop (j - 1 + 1) := List.drop_eq_getElem_cons (by omega)
      rw [e, show j - 1 + 1 = j from by omega]
      congr 1
      subst hR1
      rw [List.getElem_drop]
      have : at_ + 1 + (j - 1) = at_ + j := by omega
      simp only [this]
      rfl
    have HV : Hid (R = if contB (3 - 1) 128 159 R1 then 3 else 0) := hr
    have HG : Hid (∀ j (hj : at_ + j < s.size), 1 ≤ j → R1.drop (j - 1) = s[at_ + j] :: R1.drop j) := hget
    have hl1 : R1.length + at_ + 1 ≤ s.size := by omega
    have hl2 : s.size ≤ R1.length + at_ + 1 := by omega
    clear hr hget hlen1 hR1 HR
    go_enter Try.func109, Try.ntmps109
    go_upto_region 23 with fail
    go_cut [6, 7, 8, 9] from 10 (fun n lo hi i wc => n = .int .i64 3 ∧ lo = .int .u8 128 ∧ hi = .int .u8 159 ∧ i = .int .i64 1 ∧ wc = w)
    case first =>
      go_wp2
      go_meet
      exact ⟨rfl, rfl, rfl, rfl, rfl⟩
    obtain ⟨rfl, rfl, rfl, rfl, rfl⟩ := hcut
    go_wp2
    go_loop [7, 8, 9] (fun lo hi i => ∃ (j l' h' : Nat), 1 ≤ j ∧ j ≤ 3 ∧ i = .int .i64 j ∧ lo = .int .u8 l' ∧ hi = .int .u8 h' ∧ contB (3 - 1) 128 159 R1 = contB (3 - j) l' h' (R1.drop (j - 1))) (fun _ _ i => 3 - (intOf i).toNat)
    case atStart => exact ⟨1, 128, 159, by omega, by omega, rfl, rfl, rfl, rfl⟩
    case round =>
      obtain ⟨j, l', h', hj1, hj2, rfl, rfl, rfl, hrel⟩ := hrel
      have HC : Hid (contB (3 - 1) 128 159 R1 = contB (3 - j) l' h' (R1.drop (j - 1))) := hrel
      clear hrel
      by_cases hjN : j < 3
      · by_cases hin : at_ + j < s.size
        · have hc1 : contB (3 - j) l' h' (R1.drop (j - 1)) = (decide (l' ≤ s[at_ + j].toNat ∧ s[at_ + j].toNat ≤ h') && contB (3 - (j + 1)) 128 191 (R1.drop j)) := by
            rw [HG.out j hin hj1, show 3 - j = (3 - (j + 1)) + 1 from by omega]; rfl
          have HC1 : Hid (contB (3 - j) l' h' (R1.drop (j - 1)) = (decide (l' ≤ s[at_ + j].toNat ∧ s[at_ + j].toNat ≤ h') && contB (3 - (j + 1)) 128 191 (R1.drop j))) := hc1
          clear hc1
          have hin2 : ((at_ : Int) + (j : Int)).toNat = at_ + j := by omega
          by_cases hx1 : ((s[at_ + j].toNat : Nat) : Int) < (l' : Int)
          · have hz : R = 0 := by rw [HV.out, HC.out, HC1.out, decide_eq_false (by omega)]; rfl
            have HZ : Hid (R = 0) := hz
            clear hz
            go_wp2
            go_ret
            exact ⟨ret_int (by rw [HZ.out]; rfl), rfl⟩
          · by_cases hx2 : (h' : Int) < ((s[at_ + j].toNat : Nat) : Int)
            · have hz : R = 0 := by rw [HV.out, HC.out, HC1.out, decide_eq_false (by omega)]; rfl
              have HZ : Hid (R = 0) := hz
              clear hz
              go_wp2
              go_ret
              exact ⟨ret_int (by rw [HZ.out]; rfl), rfl⟩
            · go_wp2
              go_round
              case rel => exact ⟨j + 1, 128, 191, by omega, by omega, by go_num, rfl, rfl, by rw [HC.out, HC1.out, decide_eq_true (by omega)]; simp⟩
              case measure => simp [intOf]; omega
        · have hz : R = 0 := by
            have e : R1.drop (j - 1) = [] := List.drop_eq_nil_of_le (by omega)
            rw [HV.out, HC.out, e, show 3 - j = (3 - (j + 1)) + 1 from by omega]; rfl
          have HZ : Hid (R = 0) := hz
          clear hz
          go_wp2
          go_ret
          exact ⟨ret_int (by rw [HZ.out]; rfl), rfl⟩
      · have hjj : j = 3 := by omega
        have hz : R = 3 := by rw [HV.out, HC.out, hjj]; rfl
        have HZ : Hid (R = 3) := hz
        clear hz
        subst hjj
        go_wp2
        go_ret
        exact ⟨ret_int (by rw [HZ.out]; rfl), rfl⟩
  · obtain ⟨R1, hR1⟩ : ∃ R1, R1 = s.data.toList.drop (at_ + 1) := ⟨_, rfl⟩
    have hr : R = if contB (3 - 1) 128 191 R1 then 3 else 0 := by rw [HR.out, k.2.2, hR1]
    have hlen1 : R1.length + at_ + 1 = s.size := by rw [hR1, List.length_drop]; simp; omega
    have hget : ∀ j (hj : at_ + j < s.size), 1 ≤ j → R1.drop (j - 1) = s[at_ + j] :: R1.drop j := by
      intro j hj h1
      have e : R1.drop (j - 1) = R1[j - 1]'(by omega) :: R1.drop (j - 1 + 1) := List.drop_eq_getElem_cons (by omega)
      rw [e, show j - 1 + 1 = j from by omega]
      congr 1
      subst hR1
      rw [List.getElem_drop]
      have : at_ + 1 + (j - 1) = at_ + j := by omega
      simp only [this]
      rfl
    have HV : Hid (R = if contB (3 - 1) 128 191 R1 then 3 else 0) := hr
    have HG : Hid (∀ j (hj : at_ + j < s.size), 1 ≤ j → R1.drop (j - 1) = s[at_ + j] :: R1.drop j) := hget
    have hl1 : R1.length + at_ + 1 ≤ s.size := by omega
    have hl2 : s.size ≤ R1.length + at_ + 1 := by omega
    clear hr hget hlen1 hR1 HR
    go_enter Try.func109, Try.ntmps109
    go_upto_region 23 with fail
    go_cut [6, 7, 8, 9] from 10 (fun n lo hi i wc => n = .int .i64 3 ∧ lo = .int .u8 128 ∧ hi = .int .u8 191 ∧ i = .int .i64 1 ∧ wc = w)
    case first =>
      go_wp2
      go_meet
      exact ⟨rfl, rfl, rfl, rfl, rfl⟩
    obtain ⟨rfl, rfl, rfl, rfl, rfl⟩ := hcut
    go_wp2
    go_loop [7, 8, 9] (fun lo hi i => ∃ (j l' h' : Nat), 1 ≤ j ∧ j ≤ 3 ∧ i = .int .i64 j ∧ lo = .int .u8 l' ∧ hi = .int .u8 h' ∧ contB (3 - 1) 128 191 R1 = contB (3 - j) l' h' (R1.drop (j - 1))) (fun _ _ i => 3 - (intOf i).toNat)
    case atStart => exact ⟨1, 128, 191, by omega, by omega, rfl, rfl, rfl, rfl⟩
    case round =>
      obtain ⟨j, l', h', hj1, hj2, rfl, rfl, rfl, hrel⟩ := hrel
      have HC : Hid (contB (3 - 1) 128 191 R1 = contB (3 - j) l' h' (R1.drop (j - 1))) := hrel
      clear hrel
      by_cases hjN : j < 3
      · by_cases hin : at_ + j < s.size
        · have hc1 : contB (3 - j) l' h' (R1.drop (j - 1)) = (decide (l' ≤ s[at_ + j].toNat ∧ s[at_ + j].toNat ≤ h') && contB (3 - (j + 1)) 128 191 (R1.drop j)) := by
            rw [HG.out j hin hj1, show 3 - j = (3 - (j + 1)) + 1 from by omega]; rfl
          have HC1 : Hid (contB (3 - j) l' h' (R1.drop (j - 1)) = (decide (l' ≤ s[at_ + j].toNat ∧ s[at_ + j].toNat ≤ h') && contB (3 - (j + 1)) 128 191 (R1.drop j))) := hc1
          clear hc1
          have hin2 : ((at_ : Int) + (j : Int)).toNat = at_ + j := by omega
          by_cases hx1 : ((s[at_ + j].toNat : Nat) : Int) < (l' : Int)
          · have hz : R = 0 := by rw [HV.out, HC.out, HC1.out, decide_eq_false (by omega)]; rfl
            have HZ : Hid (R = 0) := hz
            clear hz
            go_wp2
            go_ret
            exact ⟨ret_int (by rw [HZ.out]; rfl), rfl⟩
          · by_cases hx2 : (h' : Int) < ((s[at_ + j].toNat : Nat) : Int)
            · have hz : R = 0 := by rw [HV.out, HC.out, HC1.out, decide_eq_false (by omega)]; rfl
              have HZ : Hid (R = 0) := hz
              clear hz
              go_wp2
              go_ret
              exact ⟨ret_int (by rw [HZ.out]; rfl), rfl⟩
            · go_wp2
              go_round
              case rel => exact ⟨j + 1, 128, 191, by omega, by omega, by go_num, rfl, rfl, by rw [HC.out, HC1.out, decide_eq_true (by omega)]; simp⟩
              case measure => simp [intOf]; omega
        · have hz : R = 0 := by
            have e : R1.drop (j - 1) = [] := List.drop_eq_nil_of_le (by omega)
            rw [HV.out, HC.out, e, show 3 - j = (3 - (j + 1)) + 1 from by omega]; rfl
          have HZ : Hid (R = 0) := hz
          clear hz
          go_wp2
          go_ret
          exact ⟨ret_int (by rw [HZ.out]; rfl), rfl⟩
      · have hjj : j = 3 := by omega
        have hz : R = 3 := by rw [HV.out, HC.out, hjj]; rfl
        have HZ : Hid (R = 3) := hz
        clear hz
        subst hjj
        go_wp2
        go_ret
        exact ⟨ret_int (by rw [HZ.out]; rfl), rfl⟩
  · obtain ⟨R1, hR1⟩ : ∃ R1, R1 = s.data.toList.drop (at_ + 1) := ⟨_, rfl⟩
    have hr : R = if contB (4 - 1) 144 191 R1 then 4 else 0 := by rw [HR.out, k.2, hR1]
    have hlen1 : R1.length + at_ + 1 = s.size := by rw [hR1, List.length_drop]; simp; omega
    have hget : ∀ j (hj : at_ + j < s.size), 1 ≤ j → R1.drop (j - 1) = s[at_ + j] :: R1.drop j := by
      intro j hj h1
      have e : R1.drop (j - 1) = R1[j - 1]'(by omega) :: R1.drop (j - 1 + 1) := List.drop_eq_getElem_cons (by omega)
      rw [e, show j - 1 + 1 = j from by omega]
      congr 1
      subst hR1
      rw [List.getElem_drop]
      have : at_ + 1 + (j - 1) = at_ + j := by omega
      simp only [this]
      rfl
    have HV : Hid (R = if contB (4 - 1) 144 191 R1 then 4 else 0) := hr
    have HG : Hid (∀ j (hj : at_ + j < s.size), 1 ≤ j → R1.drop (j - 1) = s[at_ + j] :: R1.drop j) := hget
    have hl1 : R1.length + at_ + 1 ≤ s.size := by omega
    have hl2 : s.size ≤ R1.length + at_ + 1 := by omega
    clear hr hget hlen1 hR1 HR
    go_enter Try.func109, Try.ntmps109
    go_upto_region 23 with fail
    go_cut [6, 7, 8, 9] from 10 (fun n lo hi i wc => n = .int .i64 4 ∧ lo = .int .u8 144 ∧ hi = .int .u8 191 ∧ i = .int .i64 1 ∧ wc = w)
    case first =>
      go_wp2
      go_meet
      exact ⟨rfl, rfl, rfl, rfl, rfl⟩
    obtain ⟨rfl, rfl, rfl, rfl, rfl⟩ := hcut
    go_wp2
    go_loop [7, 8, 9] (fun lo hi i => ∃ (j l' h' : Nat), 1 ≤ j ∧ j ≤ 4 ∧ i = .int .i64 j ∧ lo = .int .u8 l' ∧ hi = .int .u8 h' ∧ contB (4 - 1) 144 191 R1 = contB (4 - j) l' h' (R1.drop (j - 1))) (fun _ _ i => 4 - (intOf i).toNat)
    case atStart => exact ⟨1, 144, 191, by omega, by omega, rfl, rfl, rfl, rfl⟩
    case round =>
      obtain ⟨j, l', h', hj1, hj2, rfl, rfl, rfl, hrel⟩ := hrel
      have HC : Hid (contB (4 - 1) 144 191 R1 = contB (4 - j) l' h' (R1.drop (j - 1))) := hrel
      clear hrel
      by_cases hjN : j < 4
      · by_cases hin : at_ + j < s.size
        · have hc1 : contB (4 - j) l' h' (R1.drop (j - 1)) = (decide (l' ≤ s[at_ + j].toNat ∧ s[at_ + j].toNat ≤ h') && contB (4 - (j + 1)) 128 191 (R1.drop j)) := by
            rw [HG.out j hin hj1, show 4 - j = (4 - (j + 1)) + 1 from by omega]; rfl
          have HC1 : Hid (contB (4 - j) l' h' (R1.drop (j - 1)) = (decide (l' ≤ s[at_ + j].toNat ∧ s[at_ + j].toNat ≤ h') && contB (4 - (j + 1)) 128 191 (R1.drop j))) := hc1
          clear hc1
          have hin2 : ((at_ : Int) + (j : Int)).toNat = at_ + j := by omega
          by_cases hx1 : ((s[at_ + j].toNat : Nat) : Int) < (l' : Int)
          · have hz : R = 0 := by rw [HV.out, HC.out, HC1.out, decide_eq_false (by omega)]; rfl
            have HZ : Hid (R = 0) := hz
            clear hz
            go_wp2
            go_ret
            exact ⟨ret_int (by rw [HZ.out]; rfl), rfl⟩
          · by_cases hx2 : (h' : Int) < ((s[at_ + j].toNat : Nat) : Int)
            · have hz : R = 0 := by rw [HV.out, HC.out, HC1.out, decide_eq_false (by omega)]; rfl
              have HZ : Hid (R = 0) := hz
              clear hz
              go_wp2
              go_ret
              exact ⟨ret_int (by rw [HZ.out]; rfl), rfl⟩
            · go_wp2
              go_round
              case rel => exact ⟨j + 1, 128, 191, by omega, by omega, by go_num, rfl, rfl, by rw [HC.out, HC1.out, decide_eq_true (by omega)]; simp⟩
              case measure => simp [intOf]; omega
        · have hz : R = 0 := by
            have e : R1.drop (j - 1) = [] := List.drop_eq_nil_of_le (by omega)
            rw [HV.out, HC.out, e, show 4 - j = (4 - (j + 1)) + 1 from by omega]; rfl
          have HZ : Hid (R = 0) := hz
          clear hz
          go_wp2
          go_ret
          exact ⟨ret_int (by rw [HZ.out]; rfl), rfl⟩
      · have hjj : j = 4 := by omega
        have hz : R = 4 := by rw [HV.out, HC.out, hjj]; rfl
        have HZ : Hid (R = 4) := hz
        clear hz
        subst hjj
        go_wp2
        go_ret
        exact ⟨ret_int (by rw [HZ.out]; rfl), rfl⟩
  · obtain ⟨R1, hR1⟩ : ∃ R1, R1 = s.data.toList.drop (at_ + 1) := ⟨_, rfl⟩
    have hr : R = if contB (4 - 1) 128 191 R1 then 4 else 0 := by rw [HR.out, k.2.2, hR1]
    have hlen1 : R1.length + at_ + 1 = s.size := by rw [hR1, List.length_drop]; simp; omega
    have hget : ∀ j (hj : at_ + j < s.size), 1 ≤ j → R1.drop (j - 1) = s[at_ + j] :: R1.drop j := by
      intro j hj h1
      have e : R1.drop (j - 1) = R1[j - 1]'(by omega) :: R1.drop (j - 1 + 1) := List.drop_eq_getElem_cons (by omega)
      rw [e, show j - 1 + 1 = j from by omega]
      congr 1
      subst hR1
      rw [List.getElem_drop]
      have : at_ + 1 + (j - 1) = at_ + j := by omega
      simp only [this]
      rfl
    have HV : Hid (R = if contB (4 - 1) 128 191 R1 then 4 else 0) := hr
    have HG : Hid (∀ j (hj : at_ + j < s.size), 1 ≤ j → R1.drop (j - 1) = s[at_ + j] :: R1.drop j) := hget
    have hl1 : R1.length + at_ + 1 ≤ s.size := by omega
    have hl2 : s.size ≤ R1.length + at_ + 1 := by omega
    clear hr hget hlen1 hR1 HR
    go_enter Try.func109, Try.ntmps109
    go_upto_region 23 with fail
    go_cut [6, 7, 8, 9] from 10 (fun n lo hi i wc => n = .int .i64 4 ∧ lo = .int .u8 128 ∧ hi = .int .u8 191 ∧ i = .int .i64 1 ∧ wc = w)
    case first =>
      go_wp2
      go_meet
      exact ⟨rfl, rfl, rfl, rfl, rfl⟩
    obtain ⟨rfl, rfl, rfl, rfl, rfl⟩ := hcut
    go_wp2
    go_loop [7, 8, 9] (fun lo hi i => ∃ (j l' h' : Nat), 1 ≤ j ∧ j ≤ 4 ∧ i = .int .i64 j ∧ lo = .int .u8 l' ∧ hi = .int .u8 h' ∧ contB (4 - 1) 128 191 R1 = contB (4 - j) l' h' (R1.drop (j - 1))) (fun _ _ i => 4 - (intOf i).toNat)
    case atStart => exact ⟨1, 128, 191, by omega, by omega, rfl, rfl, rfl, rfl⟩
    case round =>
      obtain ⟨j, l', h', hj1, hj2, rfl, rfl, rfl, hrel⟩ := hrel
      have HC : Hid (contB (4 - 1) 128 191 R1 = contB (4 - j) l' h' (R1.drop (j - 1))) := hrel
      clear hrel
      by_cases hjN : j < 4
      · by_cases hin : at_ + j < s.size
        · have hc1 : contB (4 - j) l' h' (R1.drop (j - 1)) = (decide (l' ≤ s[at_ + j].toNat ∧ s[at_ + j].toNat ≤ h') && contB (4 - (j + 1)) 128 191 (R1.drop j)) := by
            rw [HG.out j hin hj1, show 4 - j = (4 - (j + 1)) + 1 from by omega]; rfl
          have HC1 : Hid (contB (4 - j) l' h' (R1.drop (j - 1)) = (decide (l' ≤ s[at_ + j].toNat ∧ s[at_ + j].toNat ≤ h') && contB (4 - (j + 1)) 128 191 (R1.drop j))) := hc1
          clear hc1
          have hin2 : ((at_ : Int) + (j : Int)).toNat = at_ + j := by omega
          by_cases hx1 : ((s[at_ + j].toNat : Nat) : Int) < (l' : Int)
          · have hz : R = 0 := by rw [HV.out, HC.out, HC1.out, decide_eq_false (by omega)]; rfl
            have HZ : Hid (R = 0) := hz
            clear hz
            go_wp2
            go_ret
            exact ⟨ret_int (by rw [HZ.out]; rfl), rfl⟩
          · by_cases hx2 : (h' : Int) < ((s[at_ + j].toNat : Nat) : Int)
            · have hz : R = 0 := by rw [HV.out, HC.out, HC1.out, decide_eq_false (by omega)]; rfl
              have HZ : Hid (R = 0) := hz
              clear hz
              go_wp2
              go_ret
              exact ⟨ret_int (by rw [HZ.out]; rfl), rfl⟩
            · go_wp2
              go_round
              case rel => exact ⟨j + 1, 128, 191, by omega, by omega, by go_num, rfl, rfl, by rw [HC.out, HC1.out, decide_eq_true (by omega)]; simp⟩
              case measure => simp [intOf]; omega
        · have hz : R = 0 := by
            have e : R1.drop (j - 1) = [] := List.drop_eq_nil_of_le (by omega)
            rw [HV.out, HC.out, e, show 4 - j = (4 - (j + 1)) + 1 from by omega]; rfl
          have HZ : Hid (R = 0) := hz
          clear hz
          go_wp2
          go_ret
          exact ⟨ret_int (by rw [HZ.out]; rfl), rfl⟩
      · have hjj : j = 4 := by omega
        have hz : R = 4 := by rw [HV.out, HC.out, hjj]; rfl
        have HZ : Hid (R = 4) := hz
        clear hz
        subst hjj
        go_wp2
        go_ret
        exact ⟨ret_int (by rw [HZ.out]; rfl), rfl⟩
  · obtain ⟨R1, hR1⟩ : ∃ R1, R1 = s.data.toList.drop (at_ + 1) := ⟨_, rfl⟩
    have hr : R = if contB (4 - 1) 128 143 R1 then 4 else 0 := by rw [HR.out, k.2, hR1]
    have hlen1 : R1.length + at_ + 1 = s.size := by rw [hR1, List.length_drop]; simp; omega
    have hget : ∀ j (hj : at_ + j < s.size), 1 ≤ j → R1.drop (j - 1) = s[at_ + j] :: R1.drop j := by
      intro j hj h1
      have e : R1.drop (j - 1) = R1[j - 1]'(by omega) :: R1.drop (j - 1 + 1) := List.drop_eq_getElem_cons (by omega)
      rw [e, show j - 1 + 1 = j from by omega]
      congr 1
      subst hR1
      rw [List.getElem_drop]
      have : at_ + 1 + (j - 1) = at_ + j := by omega
      simp only [this]
      rfl
    have HV : Hid (R = if contB (4 - 1) 128 143 R1 then 4 else 0) := hr
    have HG : Hid (∀ j (hj : at_ + j < s.size), 1 ≤ j → R1.drop (j - 1) = s[at_ + j] :: R1.drop j) := hget
    have hl1 : R1.length + at_ + 1 ≤ s.size := by omega
    have hl2 : s.size ≤ R1.length + at_ + 1 := by omega
    clear hr hget hlen1 hR1 HR
    go_enter Try.func109, Try.ntmps109
    go_upto_region 23 with fail
    go_cut [6, 7, 8, 9] from 10 (fun n lo hi i wc => n = .int .i64 4 ∧ lo = .int .u8 128 ∧ hi = .int .u8 143 ∧ i = .int .i64 1 ∧ wc = w)
    case first =>
      go_wp2
      go_meet
      exact ⟨rfl, rfl, rfl, rfl, rfl⟩
    obtain ⟨rfl, rfl, rfl, rfl, rfl⟩ := hcut
    go_wp2
    go_loop [7, 8, 9] (fun lo hi i => ∃ (j l' h' : Nat), 1 ≤ j ∧ j ≤ 4 ∧ i = .int .i64 j ∧ lo = .int .u8 l' ∧ hi = .int .u8 h' ∧ contB (4 - 1) 128 143 R1 = contB (4 - j) l' h' (R1.drop (j - 1))) (fun _ _ i => 4 - (intOf i).toNat)
    case atStart => exact ⟨1, 128, 143, by omega, by omega, rfl, rfl, rfl, rfl⟩
    case round =>
      obtain ⟨j, l', h', hj1, hj2, rfl, rfl, rfl, hrel⟩ := hrel
      have HC : Hid (contB (4 - 1) 128 143 R1 = contB (4 - j) l' h' (R1.drop (j - 1))) := hrel
      clear hrel
      by_cases hjN : j < 4
      · by_cases hin : at_ + j < s.size
        · have hc1 : contB (4 - j) l' h' (R1.drop (j - 1)) = (decide (l' ≤ s[at_ + j].toNat ∧ s[at_ + j].toNat ≤ h') && contB (4 - (j + 1)) 128 191 (R1.drop j)) := by
            rw [HG.out j hin hj1, show 4 - j = (4 - (j + 1)) + 1 from by omega]; rfl
          have HC1 : Hid (contB (4 - j) l' h' (R1.drop (j - 1)) = (decide (l' ≤ s[at_ + j].toNat ∧ s[at_ + j].toNat ≤ h') && contB (4 - (j + 1)) 128 191 (R1.drop j))) := hc1
          clear hc1
          have hin2 : ((at_ : Int) + (j : Int)).toNat = at_ + j := by omega
          by_cases hx1 : ((s[at_ + j].toNat : Nat) : Int) < (l' : Int)
          · have hz : R = 0 := by rw [HV.out, HC.out, HC1.out, decide_eq_false (by omega)]; rfl
            have HZ : Hid (R = 0) := hz
            clear hz
            go_wp2
            go_ret
            exact ⟨ret_int (by rw [HZ.out]; rfl), rfl⟩
          · by_cases hx2 : (h' : Int) < ((s[at_ + j].toNat : Nat) : Int)
            · have hz : R = 0 := by rw [HV.out, HC.out, HC1.out, decide_eq_false (by omega)]; rfl
              have HZ : Hid (R = 0) := hz
              clear hz
              go_wp2
              go_ret
              exact ⟨ret_int (by rw [HZ.out]; rfl), rfl⟩
            · go_wp2
              go_round
              case rel => exact ⟨j + 1, 128, 191, by omega, by omega, by go_num, rfl, rfl, by rw [HC.out, HC1.out, decide_eq_true (by omega)]; simp⟩
              case measure => simp [intOf]; omega
        · have hz : R = 0 := by
            have e : R1.drop (j - 1) = [] := List.drop_eq_nil_of_le (by omega)
            rw [HV.out, HC.out, e, show 4 - j = (4 - (j + 1)) + 1 from by omega]; rfl
          have HZ : Hid (R = 0) := hz
          clear hz
          go_wp2
          go_ret
          exact ⟨ret_int (by rw [HZ.out]; rfl), rfl⟩
      · have hjj : j = 4 := by omega
        have hz : R = 4 := by rw [HV.out, HC.out, hjj]; rfl
        have HZ : Hid (R = 4) := hz
        clear hz
        subst hjj
        go_wp2
        go_ret
        exact ⟨ret_int (by rw [HZ.out]; rfl), rfl⟩
  · have hr : R = 0 := by rw [HR.out, k.2.2]; simp
    go_enter Try.func109, Try.ntmps109
    go_wp2
    go_ret
    exact ⟨ret_int (by first | rfl | (rw [hr]; rfl)), rfl⟩
  · have hr : R = 0 := by rw [HR.out, k.2]; simp
    go_enter Try.func109, Try.ntmps109
    go_wp2
    go_ret
    exact ⟨ret_int (by first | rfl | (rw [hr]; rfl)), rfl⟩

end Go.Proofs.Ytpiankiacbghcaa
