/-
  What the laws of quillkeep ask of lists of parts: same, normal.
-/
import Derived.Test.YtgoaihpaajchaaaWalks2
namespace Go.Proofs.Ytgoaihpaajchaaa
open Go.RowKit

set_option maxHeartbeats 400000 in
theorem same_yes (v v' : Value) (L : List Pt) (w : World) (hp : PartsAt w v L) (hp' : PartsAt w v' L) (hL : L.length ≤ 1000) :
    Calls Try.prog 14 #[v, v'] w fun e w' => e = .returned (.bool true) ∧ Below w.heap.size w w' := by
  obtain ⟨ao, cap, rfl, hc⟩ := hp
  obtain ⟨ao', cap', rfl, hc'⟩ := hp'
  go_enter Try.func14, Try.ntmps14
  go_wp2
  go_loopw [5] (fun i wr => ∃ k : Nat, k ≤ L.length ∧ i = .int .i64 k ∧ Below w.heap.size w wr) (fun i _ => L.length - (intOf i).toNat)
  case atStart => exact ⟨0, Nat.zero_le _, rfl, Below.refl _ _⟩
  case round =>
    obtain ⟨k, hk, rfl, hB⟩ := hrel
    by_cases hlt : k < L.length
    · obtain ⟨b, off, rfl, hbl, hcc⟩ := hc (by omega)
      obtain ⟨b', off', rfl, hbl', hcc'⟩ := hc' (by omega)
      obtain ⟨c0, c1, c2⟩ := hcc k hlt
      obtain ⟨d0, d1, d2⟩ := hcc' k hlt
      rw [← hB.cell (p := ⟨b, _, none⟩) hbl] at c0 c1 c2
      rw [← hB.cell (p := ⟨b', _, none⟩) hbl'] at d0 d1 d2
      have hz := hB.size
      have hi : (k : Int) < (L.length : Int) := by omega
      clear hcc hcc' hc hc'
      go_wp2
      go_quiet (fail)
      go_wp2
      go_roundw
      case rel => exact ⟨k + 1, by omega, by go_num, below_drewN hB _⟩
      case measure => simp [intOf]; omega
    · go_wp2
      go_ret
      exact ⟨rfl, hB⟩

theorem nfc_at {L : List Pt} : ∀ {prev : Option Nat}, NFc prev L → ∀ k (h : k < L.length), okOne L[k] ∧ okPrev (if k = 0 then prev else (L[k - 1]?).map (·.kind)) L[k].kind := by
  induction L with
  | nil => intro _ _ k h; simp at h
  | cons p L ih =>
    intro prev hn k h
    obtain ⟨a, b, c⟩ := hn
    cases k with
    | zero => exact ⟨a, by simpa using b⟩
    | succ k =>
      have := ih c k (by simpa using h)
      refine ⟨by simpa using this.1, ?_⟩
      cases k with
      | zero => simpa using this.2
      | succ k => simpa using this.2

theorem nfc_last {L : List Pt} : ∀ {prev : Option Nat}, NFc prev L → ∀ k (h : k < L.length), k + 1 = L.length → L[k].kind ≠ 1 := by
  induction L with
  | nil => intro _ _ k h; simp at h
  | cons p L ih =>
    intro prev hn k h e
    obtain ⟨a, b, c⟩ := hn
    cases k with
    | zero =>
      have : L = [] := by simpa using e
      subst this
      simpa [NFc] using c
    | succ k => simpa using ih c k (by simpa using h) (by simpa using e)

theorem bs_nonempty {t : List UInt8} (h : t ≠ []) : (bs t).toList.isEmpty = false ∧ ¬ (bs t).toList = [] := by
  have e : (bs t).toList = t := by rw [Lib.toList_data, bs_data]
  rw [e]
  exact ⟨by cases t <;> simp_all, h⟩

/-- what stands ahead of a part in a normal form. -/
theorem nfc_prev {L : List Pt} (hn : NFc none L) (j : Nat) (h : j + 1 < L.length) :
    (L[j + 1].kind = 2 ∧ L[j].kind = 1) ∨ (L[j + 1].kind = 1 ∧ (L[j].kind = 2 ∨ L[j].kind = 3)) ∨ (L[j + 1].kind = 3 ∧ (L[j].kind = 1 ∨ L[j].kind = 2)) := by
  obtain ⟨o1, o2⟩ := nfc_at hn (j + 1) h
  obtain ⟨q1, _⟩ := nfc_at hn j (by omega)
  have hj : j < L.length := by omega
  simp only [Nat.add_one_ne_zero, if_false, Nat.add_sub_cancel, List.getElem?_eq_getElem hj, Option.map_some] at o2
  obtain ⟨p1, p2⟩ := o2
  simp only [ne_eq, Option.some.injEq] at p1 p2
  rcases o1 with ⟨a, _⟩ | ⟨a | a, _⟩ <;> rcases q1 with ⟨b, _⟩ | ⟨b | b, _⟩ <;> simp_all

theorem nfc_cell {L : List Pt} (hn : NFc none L) (k : Nat) (h : k < L.length) :
    (L[k].kind = 2 ∧ L[k].num = 0 ∧ (bs L[k].text).toList.isEmpty = false ∧ ¬ (bs L[k].text).toList = []) ∨ (∃ n : Nat, (L[k].kind = 1 ∨ L[k].kind = 3) ∧ L[k].num = n + 1 ∧ bs L[k].text = ⟨#[]⟩) := by
  obtain ⟨o1, _⟩ := nfc_at hn k h
  rcases o1 with ⟨a, b, c⟩ | ⟨a, b, c⟩
  · exact .inl ⟨a, b, bs_nonempty c⟩
  · exact .inr ⟨L[k].num - 1, a, by omega, by rw [c]; rfl⟩

set_option maxHeartbeats 1000000 in
set_option maxRecDepth 100000 in
theorem normal_yes (v : Value) (L : List Pt) (w : World) (hp : PartsAt w v L) (hL : L.length ≤ 1000) (hn : NFc none L) :
    Calls Try.prog 12 #[v] w fun e w' => e = .returned (.bool true) ∧ Below w.heap.size w w' := by
  have HN : Hid (NFc none L) := hn
  clear hn
  obtain ⟨ao, cap, rfl, hc⟩ := hp
  go_enter Try.func12, Try.ntmps12
  go_wp2
  go_loopw [3] (fun i wr => ∃ k : Nat, k ≤ L.length ∧ i = .int .i64 k ∧ Below w.heap.size w wr) (fun i _ => L.length - (intOf i).toNat)
  case atStart => exact ⟨0, Nat.zero_le _, rfl, Below.refl _ _⟩
  case round =>
    obtain ⟨k, hk, rfl, hB⟩ := hrel
    by_cases hlt : k < L.length
    · obtain ⟨b, off, rfl, hbl, hcc⟩ := hc (by omega)
      clear hc
      have hz := hB.size
      cases k with
      | zero =>
        obtain ⟨c0, c1, c2⟩ := hcc 0 hlt
        rw [← hB.cell (p := ⟨b, _, none⟩) hbl] at c0 c1 c2
        clear hcc
        have hi : (0 : Int) < (L.length : Int) := by omega
        have hd : decide ((0 : Int) < (0 : Int)) = false := by decide
        rcases nfc_cell HN.out 0 hlt with ⟨a1, a2, a3, a4⟩ | ⟨n, a1 | a1, a2, a3⟩
        · rw [a1] at c0
          rw [a2] at c1
          simp only [Nat.zero_mul, Nat.add_zero] at c0 c1 c2
          go_wp2
          go_quiet (fail)
          go_wp2
          go_roundw
          case rel => exact ⟨1, by omega, by go_num, below_drewN (hB.alloc (by omega) _) _⟩
          case measure => simp [intOf]; omega
        all_goals
          rw [a1] at c0
          rw [a2] at c1
          rw [a3] at c2
          simp only [Nat.zero_mul, Nat.add_zero] at c0 c1 c2
          have f1 : ((n : Int) + 1 == 0) = false := beq_eq_false_iff_ne.2 (by omega)
          have f2 : decide ((n : Int) + 1 < 0) = false := by simp; omega
          go_wp2
          go_quiet (fail)
          go_wp2
          go_roundw
          case rel => exact ⟨1, by omega, by go_num, below_drewN (hB.alloc (by omega) _) _⟩
          case measure => simp [intOf]; omega
      | succ j =>
        obtain ⟨c0, c1, c2⟩ := hcc (j + 1) hlt
        obtain ⟨d0, _, _⟩ := hcc j (by omega)
        rw [← hB.cell (p := ⟨b, _, none⟩) hbl] at c0 c1 c2 d0
        clear hcc
        have hi : (j : Int) + 1 < (L.length : Int) := by omega
        have hi2 : (j : Int) < (L.length : Int) := by omega
        have hd : decide ((0 : Int) < ((j + 1 : Nat) : Int)) = true := by rw [decide_eq_true_eq]; omega
        have hwr : IntKind.i64.wrap (((j + 1 : Nat) : Int) - 1) = (j : Int) := by rw [IntKind.wrap_i64]; omega
        have hkl : (j : Int) < 9223372036854775807 := by omega
        have key := nfc_prev HN.out j hlt
        rcases nfc_cell HN.out (j + 1) hlt with ⟨a1, a2, a3, a4⟩ | ⟨n, a1 | a1, a2, a3⟩
        · have d : L[j].kind = 1 := by
            rcases key with ⟨_, d⟩ | ⟨x, _⟩ | ⟨x, _⟩
            · exact d
            · omega
            · omega
          rw [a1] at c0
          rw [a2] at c1
          rw [d] at d0
          have dA : ∀ o, (wr.alloc o).cell? ⟨b, off + j * 3, none⟩ = some (.int .i64 ((1 : Nat) : Int)) := fun o => by rw [← d0]; exact ((Below.refl wr.heap.size wr).alloc (Nat.le_refl _) o).cell (p := ⟨b, _, none⟩) (by show b < _; omega)
          clear key d0
          go_wp2
          go_quiet (fail)
          go_wp2
          go_roundw
          case rel => exact ⟨j + 1 + 1, by omega, by go_num, below_drewN (hB.alloc (by omega) _) _⟩
          case measure => simp [intOf]; omega
        · have key2 : L[j].kind = 2 ∨ L[j].kind = 3 := by
            rcases key with ⟨x, _⟩ | ⟨_, d⟩ | ⟨x, _⟩
            · omega
            · exact d
            · omega
          clear key
          rcases key2 with d | d
          · skip
            rw [a1] at c0
            rw [a2] at c1
            rw [a3] at c2
            rw [d] at d0
            have dA : ∀ o, (wr.alloc o).cell? ⟨b, off + j * 3, none⟩ = some (.int .i64 ((2 : Nat) : Int)) := fun o => by rw [← d0]; exact ((Below.refl wr.heap.size wr).alloc (Nat.le_refl _) o).cell (p := ⟨b, _, none⟩) (by show b < _; omega)
            clear d0
            have f1 : ((n : Int) + 1 == 0) = false := beq_eq_false_iff_ne.2 (by omega)
            have f2 : decide ((n : Int) + 1 < 0) = false := by simp; omega
            go_wp2
            go_quiet (fail)
            go_wp2
            go_roundw
            case rel => exact ⟨j + 1 + 1, by omega, by go_num, below_drewN (hB.alloc (by omega) _) _⟩
            case measure => simp [intOf]; omega
          · skip
            rw [a1] at c0
            rw [a2] at c1
            rw [a3] at c2
            rw [d] at d0
            have dA : ∀ o, (wr.alloc o).cell? ⟨b, off + j * 3, none⟩ = some (.int .i64 ((3 : Nat) : Int)) := fun o => by rw [← d0]; exact ((Below.refl wr.heap.size wr).alloc (Nat.le_refl _) o).cell (p := ⟨b, _, none⟩) (by show b < _; omega)
            clear d0
            have f1 : ((n : Int) + 1 == 0) = false := beq_eq_false_iff_ne.2 (by omega)
            have f2 : decide ((n : Int) + 1 < 0) = false := by simp; omega
            go_wp2
            go_quiet (fail)
            go_wp2
            go_roundw
            case rel => exact ⟨j + 1 + 1, by omega, by go_num, below_drewN (hB.alloc (by omega) _) _⟩
            case measure => simp [intOf]; omega
        · have key2 : L[j].kind = 1 ∨ L[j].kind = 2 := by
            rcases key with ⟨x, _⟩ | ⟨x, _⟩ | ⟨_, d⟩
            · omega
            · omega
            · exact d
          clear key
          rcases key2 with d | d
          · skip
            rw [a1] at c0
            rw [a2] at c1
            rw [a3] at c2
            rw [d] at d0
            have dA : ∀ o, (wr.alloc o).cell? ⟨b, off + j * 3, none⟩ = some (.int .i64 ((1 : Nat) : Int)) := fun o => by rw [← d0]; exact ((Below.refl wr.heap.size wr).alloc (Nat.le_refl _) o).cell (p := ⟨b, _, none⟩) (by show b < _; omega)
            clear d0
            have f1 : ((n : Int) + 1 == 0) = false := beq_eq_false_iff_ne.2 (by omega)
            have f2 : decide ((n : Int) + 1 < 0) = false := by simp; omega
            go_wp2
            go_quiet (fail)
            go_wp2
            go_roundw
            case rel => exact ⟨j + 1 + 1, by omega, by go_num, below_drewN (hB.alloc (by omega) _) _⟩
            case measure => simp [intOf]; omega
          · skip
            rw [a1] at c0
            rw [a2] at c1
            rw [a3] at c2
            rw [d] at d0
            have dA : ∀ o, (wr.alloc o).cell? ⟨b, off + j * 3, none⟩ = some (.int .i64 ((2 : Nat) : Int)) := fun o => by rw [← d0]; exact ((Below.refl wr.heap.size wr).alloc (Nat.le_refl _) o).cell (p := ⟨b, _, none⟩) (by show b < _; omega)
            clear d0
            have f1 : ((n : Int) + 1 == 0) = false := beq_eq_false_iff_ne.2 (by omega)
            have f2 : decide ((n : Int) + 1 < 0) = false := by simp; omega
            go_wp2
            go_quiet (fail)
            go_wp2
            go_roundw
            case rel => exact ⟨j + 1 + 1, by omega, by go_num, below_drewN (hB.alloc (by omega) _) _⟩
            case measure => simp [intOf]; omega
    · have hkk : k = L.length := by omega
      subst hkk
      by_cases h0 : L.length = 0
      · have hd : ((L.length : Int) == 0) = true := by simp [h0]
        go_wp2
        go_ret
        exact ⟨by simp, hB⟩
      · obtain ⟨b, off, rfl, hbl, hcc⟩ := hc (by omega)
        have hd : ((L.length : Int) == 0) = false := beq_eq_false_iff_ne.2 (by omega)
        obtain ⟨m, hm⟩ : ∃ m, L.length = m + 1 := ⟨L.length - 1, by omega⟩
        have hml : m < L.length := by omega
        obtain ⟨c0, _, _⟩ := hcc m hml
        rw [← hB.cell (p := ⟨b, _, none⟩) hbl] at c0
        have hne := nfc_last HN.out m hml hm.symm
        have et : ((L.length : Int) - 1).toNat = m := by omega
        have hne2 : ((L[m].kind : Int) != 1) = true := by rw [bne_iff_ne]; omega
        have hi1 : (0 : Int) ≤ (L.length : Int) - 1 := by omega
        have HM : Hid (L.length = m + 1) := hm
        clear hcc hm
        go_wp2
        go_ret
        exact ⟨by simp, hB⟩

end Go.Proofs.Ytgoaihpaajchaaa
