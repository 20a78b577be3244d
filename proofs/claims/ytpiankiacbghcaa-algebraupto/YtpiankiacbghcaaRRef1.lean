/-
  The document's answer: Characters, count.
-/
import Derived.Test.YtpiankiacbghcaaRWide
namespace Go.Proofs.Ytpiankiacbghcaa
open Go.RowKit

theorem Try.infoStr : (Try.prog.info? 9).map (fun i => (i.zero, i.size, i.bytes)) = some (some (.string ByteArray.empty), 1, 16) := by kernel_rfl

/-- texts as cells. -/
def strV (l : List (List UInt8)) : List Value := l.map (fun c => Value.string (bs c))
theorem strV_length (l : List (List UInt8)) : (strV l).length = l.length := by simp [strV]
theorem strV_append (a b : List (List UInt8)) : strV (a ++ b) = strV a ++ strV b := by simp [strV]
theorem strV_one (l : List (List UInt8)) : ∀ u ∈ strV l, u.oneCell' = true := by
  intro u hu
  simp only [strV, List.mem_map] at hu
  obtain ⟨b, _, rfl⟩ := hu
  rfl

theorem extract_char {s : ByteArray} {cs : List (List UInt8)} {rest : List UInt8} (h : s.data.toList = cs.flatten ++ rest) (k : Nat) (hk : k < cs.length) : s.extract (begins cs k) (begins cs k + cs[k].length) = bs cs[k] := by
  refine bs_of ?_
  simp only [ByteArray.data_extract, Array.toList_extract, List.extract_eq_take_drop]
  rw [h, List.drop_append_of_le_length (begins_le cs k), drop_begins, List.drop_eq_getElem_cons hk, List.flatten_cons, List.append_assoc, Nat.add_sub_cancel_left, List.take_left]

set_option maxHeartbeats 1000000 in
set_option maxRecDepth 100000 in
theorem Characters_any (t : List UInt8) (w : World) (ht : t.length ≤ 1000000000) :
    Calls Try.prog 100 #[.string (bs t)] w fun e w' =>
      ((isText t = true ∧ ∃ v, e = .returned (.tuple #[v, .bool true]) ∧ w'.ownsRow w.heap.size 9 1 v (charsL t).length (strV (charsL t))) ∨ (isText t = false ∧ e = .returned (.tuple #[.slice none 0 0, .bool false]))) ∧ Below w.heap.size w w' := by
  obtain ⟨cs, hcs⟩ : ∃ cs, cs = charsL t := ⟨_, rfl⟩
  obtain ⟨rest, hrest⟩ : ∃ rest, rest = restL t := ⟨_, rfl⟩
  have hp := parseL t
  rw [← hcs, ← hrest] at hp
  rw [← hcs]
  have hlen : t.length = begins cs cs.length + rest.length := by
    have := congrArg List.length hp.eq
    rw [begins_all]
    simpa using this
  have hl1 : begins cs cs.length + rest.length ≤ t.length := by omega
  have hl2 : t.length ≤ begins cs cs.length + rest.length := by omega
  have hcl : cs.length ≤ begins cs cs.length := by rw [begins_all]; exact chars_len (fun c hc => (hp.chars c hc).ch)
  have hsz : (bs t).size ≤ t.length := by rw [bs_size]; exact Nat.le_refl _
  have hsz2 : t.length ≤ (bs t).size := by rw [bs_size]; exact Nat.le_refl _
  have HP : Hid (Parse t cs rest) := hp
  have HT : Hid (isText t = rest.isEmpty) := by show _ = _; rw [hrest]; rfl
  have hdrop : ∀ k, k ≤ cs.length → (bs t).data.toList.drop (begins cs k) = (cs.drop k).flatten ++ rest := by
    intro k hk
    rw [bs_data, hp.eq, List.drop_append_of_le_length (begins_le cs k), drop_begins]
  have HD : Hid (∀ k, k ≤ cs.length → (bs t).data.toList.drop (begins cs k) = (cs.drop k).flatten ++ rest) := hdrop
  obtain ⟨i0, hi, hz0, hz1, hz2⟩ := info_parts Try.infoStr
  clear hp hdrop hlen hcs hrest
  go_enter Try.func100, Try.ntmps100
  go_wp2
  go_loopw [4, 5] (fun l a wr => ∃ k : Nat, k ≤ cs.length ∧ a = .int .i64 (begins cs k) ∧ wr.ownsRow w.heap.size 9 1 l k (strV (cs.take k)) ∧ Below w.heap.size w wr) (fun _ a _ => t.length - (intOf a).toNat)
  case atStart => exact ⟨0, Nat.zero_le _, by rw [begins_zero]; rfl, World.ownsRow_nil _ _ _ _, Below.refl _ _⟩
  case round =>
    obtain ⟨k, hk, rfl, hown, hB⟩ := hrel
    have hz := hB.size
    have hbl : begins cs k ≤ begins cs cs.length := by rw [begins_all]; exact begins_le cs k
    by_cases hlt : begins cs k < t.length
    · by_cases hkc : k < cs.length
      · have hd0 := HD.out k hk
        have hwk := HP.out.chars cs[k] (List.getElem_mem hkc)
        have hwd : wideL ((bs t).data.toList.drop (begins cs k)) = cs[k].length := by rw [hd0, List.drop_eq_getElem_cons hkc, List.flatten_cons, List.append_assoc]; exact hwk.2 _
        have hbs := begins_succ cs k hkc
        have hble : begins cs (k + 1) ≤ begins cs cs.length := by rw [begins_all]; exact begins_le cs (k + 1)
        have hex := extract_char (s := bs t) (cs := cs) (rest := rest) (by rw [bs_data]; exact HP.out.eq) k hkc
        have HW : Hid (wideL ((bs t).data.toList.drop (begins cs k)) = cs[k].length ∧ begins cs (k + 1) = begins cs k + cs[k].length ∧ (bs t).extract (begins cs k) (begins cs k + cs[k].length) = bs cs[k]) := ⟨hwd, hbs, hex⟩
        have hc1 : 1 ≤ cs[k].length := hwk.1
        have hc2 : begins cs k + cs[k].length ≤ begins cs cs.length := by omega
        clear hd0 hwd hbs hex hwk
        have hc0 : ((cs[k].length : Int) == 0) = false := beq_eq_false_iff_ne.2 (by omega)
        go_wp2_with fail
        refine (wide_any (bs t) (begins cs k) _ (by omega) (by omega)).mono ?_
        rintro e w2 ⟨rfl, rfl⟩
        rw [HW.out.1]
        go_wp2_with (at_builtin; refine wpList_append_own _ rfl _ _ 61 rfl w.heap.size 9 i0 _ 1 16 Try.underlying61 hi hz0 hz1 hz2 rfl (by decide) _ _ _ rfl (hown.alloc _) ⟨w2.heap.size, 0, none⟩ 1 1 [.string ((bs t).extract (begins cs k) (begins cs k + cs[k].length))] rfl rfl (cell_one_new _ _ _) (fun x hx => by simp at hx; subst hx; rfl) (by unfold maxLen; omega) (by omega) (by simp; omega) ?_; intro v' w3 hown' hgrow _)
        go_roundw
        case rel =>
          refine ⟨k + 1, by omega, ?_, ?_, (hB.alloc (by omega) _).grown hgrow (by simp; omega) (fun g hg => (hown.lt g hg).1)⟩
          · rw [HW.out.2.1]; go_num
          · rw [List.take_succ_eq_append_getElem hkc, strV_append]
            rw [HW.out.2.2] at hown'
            exact hown'
        case measure => simp [intOf]; omega
      · have hkk : k = cs.length := by omega
        subst hkk
        have hrne : rest ≠ [] := fun e => by rw [e] at hl2; simp at hl2; omega
        have hwd : wideL ((bs t).data.toList.drop (begins cs cs.length)) = 0 := by
          rw [HD.out cs.length (Nat.le_refl _), List.drop_length]
          rcases HP.out.stop with e | e
          · exact absurd e hrne
          · simpa using e
        have HW : Hid (wideL ((bs t).data.toList.drop (begins cs cs.length)) = 0) := hwd
        clear hwd
        go_wp2_with fail
        refine (wide_any (bs t) (begins cs cs.length) _ (by omega) (by omega)).mono ?_
        rintro e w2 ⟨rfl, rfl⟩
        rw [HW.out]
        go_wp2
        go_ret2
        have hT : isText t = false := by rw [HT.out]; cases rest with | nil => exact absurd rfl hrne | cons a b => rfl
        exact ⟨.inr ⟨hT, rfl⟩, hB⟩
    · have hkk : k = cs.length := by
        rcases Nat.lt_or_ge k cs.length with e | e
        · have h1 := begins_succ cs k e
          have h2 := (HP.out.chars cs[k] (List.getElem_mem e)).1
          have h3 : begins cs (k + 1) ≤ begins cs cs.length := by rw [begins_all]; exact begins_le cs (k + 1)
          omega
        · omega
      subst hkk
      have hrl : rest.length = 0 := by omega
      have hrn : rest = [] := List.length_eq_zero_iff.1 hrl
      have HRN : Hid (rest = []) := hrn
      clear hrl hrn
      rw [List.take_length] at hown
      obtain ⟨ao, cap, rfl⟩ : ∃ ao cap, u4 = .slice ao cs.length cap := by
        rcases hown.2 with ⟨hv, h0⟩ | ⟨g, cap, cur, hv, _⟩
        · exact ⟨none, 0, by rw [hv, h0]⟩
        · exact ⟨_, _, hv⟩
      go_wp2
      go_ret2
      have hT : isText t = true := by rw [HT.out, HRN.out]; rfl
      exact ⟨.inl ⟨hT, _, rfl, hown⟩, hB⟩

theorem sumQ_take_succ (Q : List Qt) (k : Nat) (h : k < Q.length) : sumQ (Q.take (k + 1)) = sumQ (Q.take k) + Q[k].num := by
  rw [List.take_succ_eq_append_getElem h]
  simp only [sumQ, List.map_append, List.map_cons, List.map_nil, List.sum_append, List.sum_cons, List.sum_nil]
  omega

theorem sumQ_bd {Q : List Qt} (h : Q.all rightQ = true) : 0 ≤ sumQ Q ∧ sumQ Q ≤ Q.length * 1000000 := by
  induction Q with
  | nil => simp [sumQ]
  | cons q Q ih =>
    simp only [List.all_cons, Bool.and_eq_true] at h
    obtain ⟨p, hp, rfl⟩ := rightQ_of h.1
    have := ih h.2
    have h2 : p.num ≤ 1000000 := by
      rcases hp with ⟨_, _, h, _⟩ | ⟨_, h, _⟩ | ⟨_, _, h, _⟩ <;> omega
    simp only [sumQ, List.map_cons, List.sum_cons, Pt.q, List.length_cons] at *
    omega

set_option maxHeartbeats 4000000 in
set_option maxRecDepth 100000 in
theorem rcount_any (v : Value) (Q : List Qt) (w : World) (hp : QsAt w v Q) (hL : Q.length ≤ 9223372036854775806) (hr : ∀ q ∈ Q, q.text.length ≤ 1000000000) :
    Calls Try.prog 108 #[v] w fun e w' => e = .returned (.tuple #[.int .i64 (if decide (40 < Q.length) || !Q.all rightQ then 0 else if !Q.all (fun q => isText q.text) then 0 else sumQ Q), .int .i64 (if decide (40 < Q.length) || !Q.all rightQ then 1 else if !Q.all (fun q => isText q.text) then 2 else 0)]) ∧ Below w.heap.size w w' := by
  obtain ⟨ao, cap, rfl, hc⟩ := hp
  obtain ⟨R, hR⟩ : ∃ R : Int × Int, R = (if decide (40 < Q.length) || !Q.all rightQ then 0 else if !Q.all (fun q => isText q.text) then 0 else sumQ Q, if decide (40 < Q.length) || !Q.all rightQ then 1 else if !Q.all (fun q => isText q.text) then 2 else 0) := ⟨_, rfl⟩
  obtain ⟨R1, R2⟩ := R
  simp only [Prod.mk.injEq] at hR
  rw [← hR.1, ← hR.2]
  have HR : Hid (R1 = (if decide (40 < Q.length) || !Q.all rightQ then 0 else if !Q.all (fun q => isText q.text) then 0 else sumQ Q) ∧ R2 = if decide (40 < Q.length) || !Q.all rightQ then 1 else if !Q.all (fun q => isText q.text) then 2 else 0) := hR
  have HT : Hid (∀ q ∈ Q, q.text.length ≤ 1000000000) := hr
  clear hR hr
  by_cases h40 : 40 < Q.length
  · have e1 : R1 = 0 := by rw [HR.out.1]; simp [h40]
    have e2 : R2 = 1 := by rw [HR.out.2]; simp [h40]
    subst e1 e2
    go_enter Try.func108, Try.ntmps108
    go_wp2
    go_ret2
    exact ⟨rfl, Below.refl _ _⟩
  · have h41 : Q.length ≤ 40 := by omega
    have HR' : Hid (R1 = (if !Q.all rightQ then 0 else if !Q.all (fun q => isText q.text) then 0 else sumQ Q) ∧ R2 = if !Q.all rightQ then 1 else if !Q.all (fun q => isText q.text) then 2 else 0) := by
      have := HR.out
      rw [decide_eq_false h40, Bool.false_or] at this
      exact this
    clear h40 HR
    go_enter Try.func108, Try.ntmps108
    go_wp2
    go_loopw [4, 5] (fun s i wr => ∃ k : Nat, k ≤ Q.length ∧ i = .int .i64 k ∧ (Q.take k).all rightQ = true ∧ s = .int .i64 (sumQ (Q.take k)) ∧ Below w.heap.size w wr) (fun _ i _ => Q.length - (intOf i).toNat)
    case atStart => exact ⟨0, Nat.zero_le _, rfl, by simp, rfl, Below.refl _ _⟩
    case round =>
      obtain ⟨k, hk, rfl, hall, rfl, hB⟩ := hrel
      have HA : Hid ((Q.take k).all rightQ = true) := hall
      have hsb := sumQ_bd hall
      have hsb2 : sumQ (Q.take k) ≤ 40000000 := by have : (Q.take k).length ≤ Q.length := List.length_take_le' _ _; omega
      have hsb1 : 0 ≤ sumQ (Q.take k) := hsb.1
      clear hall hsb
      have hz := hB.size
      by_cases hlt : k < Q.length
      · obtain ⟨b, off, rfl, hbl, hcc⟩ := hc (by omega)
        obtain ⟨c0, c1, c2⟩ := hcc k hlt
        rw [← hB.cell (p := ⟨b, _, none⟩) hbl] at c0 c1 c2
        clear hc hcc
        have HSS : Hid (sumQ (Q.take (k + 1)) = sumQ (Q.take k) + Q[k].num) := sumQ_take_succ Q k hlt
        have HNB : Hid (Below w.heap.size w wr) := hB
        cases hq : rightQ Q[k]
        · have HQ : Hid (rightQ Q[k] = false) := hq
          have e1 : R1 = 0 := by rw [HR'.out.1, all_false_at rightQ Q k hlt hq]; rfl
          have e2 : R2 = 1 := by rw [HR'.out.2, all_false_at rightQ Q k hlt hq]; rfl
          subst e1 e2
          have he := bs_isEmpty Q[k].text
          clear hq
          go_wp2
          all_goals first
            | (go_ret2; exact ⟨rfl, HNB.out.alloc (by omega) _⟩)
            | (exfalso; have hq := HQ.out; simp_all [rightQ])
        · obtain ⟨p, hp, hqp⟩ := rightQ_of hq
          have HQ : Hid (rightQ Q[k] = true) := hq
          have hpn : Q[k].num = p.num := by rw [hqp]; rfl
          have HPN : Hid (Q[k].num = p.num) := hpn
          rw [hqp] at c0 c1 c2
          simp only [Pt.q] at c0 c1 c2
          clear hq hqp hpn
          rcases hp with ⟨a, a2, a3, d⟩ | ⟨a, a2, a3⟩ | ⟨a, a2, a3, d⟩
          · rw [a] at c0
            rw [d] at c2
            have he : (bs ([] : List UInt8)).toList.isEmpty = true := by rw [bs_isEmpty]; rfl
            go_wp2
            go_roundw
            case rel => exact ⟨k + 1, by omega, by go_num, by rw [take_all_succ rightQ Q k hlt, HA.out, HQ.out]; rfl, by rw [HSS.out, HPN.out], HNB.out.alloc (by omega) _⟩
            case measure => simp [intOf]; omega
          · rw [a] at c0
            rw [a2] at c1
            obtain ⟨he1, he2⟩ := bs_nonempty a3
            go_wp2
            go_roundw
            case rel => exact ⟨k + 1, by omega, by go_num, by rw [take_all_succ rightQ Q k hlt, HA.out, HQ.out]; rfl, by rw [HSS.out, HPN.out, a2]; go_num, HNB.out.alloc (by omega) _⟩
            case measure => simp [intOf]; omega
          · rw [a] at c0
            rw [d] at c2
            have he : (bs ([] : List UInt8)).toList.isEmpty = true := by rw [bs_isEmpty]; rfl
            go_wp2
            go_roundw
            case rel => exact ⟨k + 1, by omega, by go_num, by rw [take_all_succ rightQ Q k hlt, HA.out, HQ.out]; rfl, by rw [HSS.out, HPN.out], HNB.out.alloc (by omega) _⟩
            case measure => simp [intOf]; omega
      · have hkk : k = Q.length := by omega
        subst hkk
        have hall : Q.all rightQ = true := by have := HA.out; rwa [List.take_length] at this
        have HR2 : Hid (R1 = (if !Q.all (fun q => isText q.text) then 0 else sumQ Q) ∧ R2 = if !Q.all (fun q => isText q.text) then 2 else 0) := by
          have := HR'.out
          rw [hall] at this
          simp only [Bool.not_true, Bool.false_eq_true, if_false] at this
          exact this
        have HB1 : Hid (Below w.heap.size w wr) := hB
        have hst : sumQ (Q.take Q.length) = sumQ Q := by rw [List.take_length]
        have hs1 : 0 ≤ sumQ Q := by rw [← hst]; exact hsb1
        have hs2 : sumQ Q ≤ 40000000 := by rw [← hst]; exact hsb2
        rw [hst]
        clear hall hst hsb1 hsb2 HR' HA
        go_wp2
        go_loopw [9] (fun i wr => ∃ k : Nat, k ≤ Q.length ∧ i = .int .i64 k ∧ (Q.take k).all (fun q => isText q.text) = true ∧ Below w.heap.size w wr) (fun i _ => Q.length - (intOf i).toNat)
        case atStart => exact ⟨0, Nat.zero_le _, rfl, by simp, HB1.out⟩
        case round =>
          obtain ⟨k, hk, rfl, hall, hB⟩ := hrel
          have HA : Hid ((Q.take k).all (fun q => isText q.text) = true) := hall
          clear hall
          have hz := hB.size
          by_cases hlt : k < Q.length
          · obtain ⟨b, off, rfl, hbl, hcc⟩ := hc (by omega)
            obtain ⟨c0, c1, c2⟩ := hcc k hlt
            rw [← hB.cell (p := ⟨b, _, none⟩) hbl] at c0 c1 c2
            clear hc hcc
            have HNB : Hid (Below w.heap.size w wr) := hB
            have htl := HT.out Q[k] (List.getElem_mem hlt)
            go_wp2_with fail
            refine (Characters_any Q[k].text _ htl).mono ?_
            rintro e w2 ⟨hres, hb2⟩
            have HB2 : Hid (Below w.heap.size w w2) := HNB.out.trans (hb2.mono hz)
            clear hb2
            rcases hres with ⟨h1, v1, rfl, _⟩ | ⟨h1, rfl⟩
            · go_wp2
              go_roundw
              case rel => exact ⟨k + 1, by omega, by go_num, by rw [take_all_succ (fun q : Qt => isText q.text) Q k hlt, HA.out, h1]; rfl, HB2.out⟩
              case measure => simp [intOf]; omega
            · have HF : Hid (Q.all (fun q => isText q.text) = false) := all_false_at (fun q : Qt => isText q.text) Q k hlt h1
              clear h1
              go_wp2
              go_ret2
              have e1 : R1 = 0 := by rw [HR2.out.1, HF.out]; rfl
              have e2 : R2 = 2 := by rw [HR2.out.2, HF.out]; rfl
              exact ⟨by rw [e1, e2]; rfl, HB2.out⟩
          · have hkk : k = Q.length := by omega
            subst hkk
            have HF : Hid (Q.all (fun q => isText q.text) = true) := by have := HA.out; rwa [List.take_length] at this
            go_wp2
            go_ret2
            have e1 : R1 = sumQ Q := by rw [HR2.out.1, HF.out]; rfl
            have e2 : R2 = 0 := by rw [HR2.out.2, HF.out]; rfl
            exact ⟨by rw [e1, e2]; rfl, hB⟩

end Go.Proofs.Ytpiankiacbghcaa
