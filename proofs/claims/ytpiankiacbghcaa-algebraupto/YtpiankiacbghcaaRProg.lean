/-
  Small words for the walks of quillref.
  The errors of an operation, at every list of parts: right, allRight, Count, allCharacters, reach, errorOf; Normal and Apply with an error.
  ops.Normal and ops.Apply at every argument.
-/
import Derived.Test.YtpiankiacbghcaaAlg2
import Derived.Test.YtpiankiacbghcaaRText
namespace Go.Proofs.Ytpiankiacbghcaa
open Go.RowKit

theorem own_below {w w' : World} {C base : Nat} {e : TypeId} {sz : Nat} {v : Value} {n : Nat} {xs : List Value} (h : w.ownsRow base e sz v n xs) (hb : Below C w w') (hC : w.heap.size ≤ C) : w'.ownsRow base e sz v n xs := by
  refine ⟨h.1, ?_⟩
  rcases h.2 with hn | ⟨g, cap, cur, rfl, hbb, hgg, rest⟩
  · exact .inl hn
  · exact .inr ⟨g, cap, cur, rfl, hbb, by rw [hb.block g (Nat.lt_of_lt_of_le (lt_of_blk hgg) hC)]; exact hgg, rest⟩

theorem applyP_len (L : List Pt) : ∀ cs : List (List UInt8), (applyP L cs).length ≤ cs.flatten.length + tlen L := by
  induction L with
  | nil => intro cs; simp [applyP, tlen]
  | cons p L ih =>
    intro cs
    have h1 := ih (cs.drop p.num)
    have h2 := ih cs
    have h3 : cs.flatten.length = (cs.take p.num).flatten.length + (cs.drop p.num).flatten.length := by rw [← List.length_append, ← flatten_split]
    have h4 : tlen (p :: L) = p.text.length + tlen L := by simp [tlen]
    unfold applyP
    split
    · rw [List.length_append]; omega
    · split
      · rw [List.length_append]; omega
      · omega

/-- a part as it is handed in: whatever numbers. -/
structure Qt where
  kind : Int
  num : Int
  text : List UInt8

def Pt.q (p : Pt) : Qt := ⟨p.kind, p.num, p.text⟩

def QtAt (w : World) (b o : Nat) (p : Qt) : Prop :=
  w.cell? ⟨b, o, none⟩ = some (.int .i64 p.kind) ∧ w.cell? ⟨b, o + 1, none⟩ = some (.int .i64 p.num) ∧ w.cell? ⟨b, o + 2, none⟩ = some (.string (bs p.text))

def QsAt (w : World) (v : Value) (Q : List Qt) : Prop :=
  ∃ ao cap, v = .slice ao Q.length cap ∧ (0 < Q.length → ∃ b off, ao = some ⟨b, off, none⟩ ∧ b < w.heap.size ∧ ∀ k (h : k < Q.length), QtAt w b (off + k * 3) Q[k])

theorem QsAt.below {w w' : World} {v : Value} {Q : List Qt} (h : QsAt w v Q) {B : Nat} (hb : Below B w w') (hB : w.heap.size ≤ B) : QsAt w' v Q := by
  obtain ⟨ao, cap, rfl, hc⟩ := h
  refine ⟨ao, cap, rfl, fun hl => ?_⟩
  obtain ⟨b, off, e, hlt, hp⟩ := hc hl
  refine ⟨b, off, e, Nat.lt_of_lt_of_le hlt hb.size, fun k hk => ?_⟩
  obtain ⟨c0, c1, c2⟩ := hp k hk
  have hlt' : b < B := by omega
  exact ⟨(hb.cell (p := ⟨b, _, none⟩) hlt').trans c0, (hb.cell (p := ⟨b, _, none⟩) hlt').trans c1, (hb.cell (p := ⟨b, _, none⟩) hlt').trans c2⟩

theorem QsAt.parts {w : World} {v : Value} {L : List Pt} (h : QsAt w v (L.map Pt.q)) : PartsAt w v L := by
  obtain ⟨ao, cap, rfl, hc⟩ := h
  refine ⟨ao, cap, by simp, fun hl => ?_⟩
  obtain ⟨b, off, e, hlt, hp⟩ := hc (by simpa using hl)
  refine ⟨b, off, e, hlt, fun k hk => ?_⟩
  have := hp k (by simpa using hk)
  rw [List.getElem_map] at this
  exact this

def rightQ (q : Qt) : Bool := (((q.kind == 1 || q.kind == 3) && (decide (1 ≤ q.num) && decide (q.num ≤ 1000000))) && q.text.isEmpty) || (q.kind == 2 && q.num == 0 && !q.text.isEmpty)

theorem rightQ_of {q : Qt} (h : rightQ q = true) : ∃ p : Pt, Right p ∧ q = p.q := by
  obtain ⟨k, n, t⟩ := q
  simp only [rightQ, Bool.or_eq_true, Bool.and_eq_true, beq_iff_eq, decide_eq_true_eq, Bool.not_eq_true', List.isEmpty_iff] at h
  rcases h with ⟨⟨h1, h2, h3⟩, h4⟩ | ⟨⟨h1, h2⟩, h3⟩
  · refine ⟨⟨k.toNat, n.toNat, t⟩, ?_, ?_⟩
    · rcases h1 with e | e
      · exact .inl ⟨by simp [e], by show 1 ≤ n.toNat; omega, by show n.toNat ≤ _; omega, h4⟩
      · exact .inr (.inr ⟨by simp [e], by show 1 ≤ n.toNat; omega, by show n.toNat ≤ _; omega, h4⟩)
    · simp only [Pt.q, Qt.mk.injEq, and_true]; omega
  · refine ⟨⟨k.toNat, n.toNat, t⟩, .inr (.inl ⟨by simp [h1], by simp [h2], ?_⟩), ?_⟩
    · intro e; rw [show t = [] from e] at h3; simp at h3
    · simp only [Pt.q, Qt.mk.injEq, and_true]; omega

theorem allQ_of {Q : List Qt} (h : Q.all rightQ = true) : ∃ L : List Pt, (∀ p ∈ L, Right p) ∧ Q = L.map Pt.q := by
  induction Q with
  | nil => exact ⟨[], by simp, rfl⟩
  | cons q Q ih =>
    simp only [List.all_cons, Bool.and_eq_true] at h
    obtain ⟨p, hp, rfl⟩ := rightQ_of h.1
    obtain ⟨L, hL, rfl⟩ := ih h.2
    exact ⟨p :: L, by intro x hx; rcases List.mem_cons.1 hx with e | e; exact e ▸ hp; exact hL x e, rfl⟩

def qtV (q : Qt) : Value := .agg #[.int .i64 q.kind, .int .i64 q.num, .string (bs q.text)]

theorem bs_isEmpty (t : List UInt8) : (bs t).toList.isEmpty = t.isEmpty := by rw [Lib.toList_data, bs_data]

set_option maxHeartbeats 1000000 in
theorem right_any (q : Qt) (w : World) :
    Calls Try.prog 85 #[qtV q] w fun e w' => e = .returned (.bool (rightQ q)) ∧ Below w.heap.size w w' := by
  unfold qtV
  have he := bs_isEmpty q.text
  have HE : Hid ((bs q.text).toList.isEmpty = q.text.isEmpty) := he
  clear he
  go_enter Try.func85, Try.ntmps85
  go_wp2
  all_goals
    go_ret
    refine ⟨ret_bool ?_, (Below.refl _ _).alloc (Nat.le_refl _) _⟩
    simp_all [rightQ, bs_isEmpty]
    try (intros; omega)

theorem take_all_succ {α : Type} (f : α → Bool) (Q : List α) (k : Nat) (h : k < Q.length) : (Q.take (k + 1)).all f = ((Q.take k).all f && f Q[k]) := by
  rw [List.take_succ_eq_append_getElem h, List.all_append]; simp
theorem all_false_at {α : Type} (f : α → Bool) (Q : List α) (k : Nat) (h : k < Q.length) (hf : f Q[k] = false) : Q.all f = false := by
  rw [List.all_eq_false]; exact ⟨Q[k], List.getElem_mem h, by simp [hf]⟩

set_option maxHeartbeats 400000 in
theorem allRight_any (v : Value) (Q : List Qt) (w : World) (hp : QsAt w v Q) (hL : Q.length ≤ 9223372036854775806) :
    Calls Try.prog 42 #[v] w fun e w' => e = .returned (.bool (Q.all rightQ)) ∧ Below w.heap.size w w' := by
  obtain ⟨ao, cap, rfl, hc⟩ := hp
  obtain ⟨R, hR⟩ : ∃ R, R = Q.all rightQ := ⟨_, rfl⟩
  rw [← hR]
  have HR : Hid (R = Q.all rightQ) := hR
  clear hR
  go_enter Try.func42, Try.ntmps42
  go_wp2
  go_loopw [7] (fun i wr => ∃ k : Nat, k ≤ Q.length ∧ i = .int .i64 k ∧ (Q.take k).all rightQ = true ∧ Below w.heap.size w wr) (fun i _ => Q.length - (intOf i).toNat)
  case atStart => exact ⟨0, Nat.zero_le _, rfl, by simp, Below.refl _ _⟩
  case round =>
    obtain ⟨k, hk, rfl, hall, hB⟩ := hrel
    have HA : Hid ((Q.take k).all rightQ = true) := hall
    clear hall
    by_cases hlt : k < Q.length
    · obtain ⟨b, off, rfl, hbl, hcc⟩ := hc (by omega)
      obtain ⟨c0, c1, c2⟩ := hcc k hlt
      rw [← hB.cell (p := ⟨b, _, none⟩) hbl] at c0 c1 c2
      have hz := hB.size
      cases hq : rightQ Q[k]
      · have HQ : Hid (rightQ Q[k] = false) := hq
        clear hq
        go_wp2_with (go_at_call 85; refine (right_any Q[k] _).mono ?_; rintro e w' ⟨rfl, hb2⟩; rw [HQ.out])
        go_ret
        exact ⟨by rw [HR.out, all_false_at rightQ Q k hlt HQ.out]; rfl, (hB.alloc (by omega) _).trans (hb2.mono (by simp; omega))⟩
      · have HQ : Hid (rightQ Q[k] = true) := hq
        clear hq
        go_wp2_with (go_at_call 85; refine (right_any Q[k] _).mono ?_; rintro e w' ⟨rfl, hb2⟩; rw [HQ.out])
        go_roundw
        case rel => exact ⟨k + 1, by omega, by go_num, by rw [take_all_succ rightQ Q k hlt, HA.out, HQ.out]; rfl, (hB.alloc (by omega) _).trans (hb2.mono (by simp; omega))⟩
        case measure => simp [intOf]; omega
    · go_wp2
      go_ret
      exact ⟨by rw [HR.out, ← HA.out, List.take_of_length_le (by omega)]; rfl, hB⟩

set_option maxHeartbeats 400000 in
theorem count_bad (s : ByteArray) (cs : List (List UInt8)) (rest : List UInt8) (w : World) (hs : s.size ≤ 9223372036854775806) (hp : Parse s.data.toList cs rest) (hr : rest ≠ []) :
    Calls Try.prog 52 #[.string s] w fun e w' => e = .returned (.tuple #[.int .i64 0, .bool false]) ∧ Below w.heap.size w w' := by
  have HP : Hid (Parse s.data.toList cs rest ∧ rest ≠ []) := ⟨hp, hr⟩
  have hlen : s.size = (begins cs cs.length) + rest.length := by
    have := congrArg List.length hp.eq
    rw [begins_all]
    simpa using this
  have hlen1 : begins cs cs.length + rest.length ≤ s.size := by omega
  have hlen2 : s.size ≤ begins cs cs.length + rest.length := by omega
  have hcl : cs.length ≤ begins cs cs.length := by rw [begins_all]; exact chars_len (fun c hc => (hp.chars c hc).ch)
  have hrl : 1 ≤ rest.length := by cases rest with | nil => exact absurd rfl hr | cons a b => simp
  have hdrop : ∀ k, k ≤ cs.length → s.data.toList.drop (begins cs k) = (cs.drop k).flatten ++ rest := by
    intro k hk
    rw [hp.eq, List.drop_append_of_le_length (begins_le cs k), drop_begins]
  have HD : Hid (∀ k, k ≤ cs.length → s.data.toList.drop (begins cs k) = (cs.drop k).flatten ++ rest) := hdrop
  clear hp hr hdrop hlen
  go_enter Try.func52, Try.ntmps52
  go_wp2
  go_loopw [4] (fun n wr => ∃ k : Nat, k ≤ cs.length ∧ n = .int .i64 k ∧ wr = w.iter s (begins cs k)) (fun n _ => cs.length - (intOf n).toNat)
  case atStart => exact ⟨0, Nat.zero_le _, rfl, by rw [begins_zero]⟩
  case round =>
    obtain ⟨k, hk, rfl, rfl⟩ := hrel
    by_cases hlt : k < cs.length
    · have hd0 := HD.out k hk
      have hdk : s.data.toList.drop (begins cs k) = cs[k] ++ ((cs.drop (k + 1)).flatten ++ rest) := by rw [hd0, List.drop_eq_getElem_cons hlt, List.flatten_cons, List.append_assoc]
      have hwk := HP.out.1.chars cs[k] (List.getElem_mem hlt)
      have hdec := (decode_wide hdk (fun e => by rw [List.append_eq_nil_iff] at e; have := hwk.1; rw [e.1] at this; simp at this)).2
      rw [hwk.2] at hdec
      obtain ⟨hw2, hbad⟩ := hdec (by have := hwk.1; omega)
      have hbs := begins_succ cs k hlt
      have hble : begins cs (k + 1) ≤ begins cs cs.length := by rw [begins_all]; exact begins_le cs (k + 1)
      have hp : begins cs k < s.size := by omega
      have hnx : ∀ ty, (Instr.next (.pointer (some ⟨w.heap.size, 0, none⟩)) true ty).run Try.prog (w.iter s (begins cs k)) = _ := fun ty => run_next_any w s (begins cs k) ty hp
      have HB : Hid ((Utf8.decode s (begins cs k)).2 = cs[k].length ∧ ((Utf8.decode s (begins cs k)).1 = 65533 → cs[k].length = 3 ∧ (s.data.toList.drop (begins cs k)).take 3 = [239, 191, 189])) := ⟨hw2, fun h => by rw [hdk]; exact hbad h⟩
      have HS : Hid (begins cs (k + 1) = begins cs k + cs[k].length ∧ begins cs (k + 1) ≤ begins cs cs.length) := ⟨hbs, hble⟩
      clear hw2 hbad hd0 hdk hwk hbs hble
      by_cases hr : (Utf8.decode s (begins cs k)).1 = 65533
      · have hpre : hasPre (s.extract (begins cs k) s.size) { data := #[239, 191, 189] } = true := by
          have e := HB.out.2 hr
          have h9 := HS.out
          exact hasPre_of s _ (by omega) e.2
        go_wp2_with (go_at_call 88; refine (hasPrefix_any _ _ _ (by simp; omega) (by decide)).mono ?_; rintro e w' ⟨rfl, rfl⟩)
        go_roundw
        case rel => exact ⟨k + 1, by omega, by go_num, by rw [HS.out.1, HB.out.1]⟩
        case measure => simp [intOf]; omega
      · go_wp2
        go_roundw
        case rel => exact ⟨k + 1, by omega, by go_num, by rw [HS.out.1, HB.out.1]⟩
        case measure => simp [intOf]; omega
    · have hkk : k = cs.length := by omega
      subst hkk
      have hp : begins cs cs.length < s.size := by omega
      have hd0 : s.data.toList.drop (begins cs cs.length) = rest := by rw [HD.out cs.length (Nat.le_refl _), List.drop_length]; rfl
      have hw0 : wideL rest = 0 := by
        rcases HP.out.1.stop with e | e
        · exact absurd e HP.out.2
        · exact e
      have hdec := (decode_wide hd0 HP.out.2).1 hw0
      have hnx : ∀ ty, (Instr.next (.pointer (some ⟨w.heap.size, 0, none⟩)) true ty).run Try.prog (w.iter s (begins cs cs.length)) = _ := fun ty => run_next_any w s (begins cs cs.length) ty hp
      have hr1 : (Utf8.decode s (begins cs cs.length)).1 = 65533 := by rw [hdec]
      have hpre : hasPre (s.extract (begins cs cs.length) s.size) { data := #[239, 191, 189] } = false := by
        rw [Bool.eq_false_iff]
        intro hpr
        have h3 : ({ data := #[239, 191, 189] } : ByteArray).size = 3 := rfl
        simp only [hasPre, h3, Bool.and_eq_true, decide_eq_true_eq, Lib.toList_data, beq_iff_eq, ByteArray.data_extract, Array.toList_extract, List.extract_eq_take_drop, List.drop_zero, Nat.sub_zero] at hpr
        rw [hd0, List.take_take] at hpr
        have h5 : rest.take 3 = [239, 191, 189] := by
          have : min 3 (s.size - begins cs cs.length) = min 3 rest.length := by omega
          rw [this] at hpr
          rw [← hpr.2]
          rw [List.take_eq_take_iff]; omega
        have h6 : wideL rest = 3 := by
          rw [← List.take_append_drop 3 rest, h5]
          simp [wideL, lead3, contB]
        omega
      clear hdec hd0 hw0
      go_wp2_with (go_at_call 88; refine (hasPrefix_any _ _ _ (by simp; omega) (by decide)).mono ?_; rintro e w' ⟨rfl, rfl⟩)
      go_ret2
      exact ⟨rfl, (Below.refl _ _).alloc (Nat.le_refl _) _⟩

theorem count_text (t : List UInt8) (w : World) (hs : t.length ≤ 9223372036854775806) (h : isText t = true) :
    Calls Try.prog 52 #[.string (bs t)] w fun e w' => e = .returned (.tuple #[.int .i64 (charsL t).length, .bool true]) ∧ Below w.heap.size w w' := by
  refine count_ok (bs t) (charsL t) w (by rw [bs_size]; exact hs) (by rw [bs_data]; exact text_eq h) (text_chars t) ?_
  have h1 := chars_len (text_chars t)
  rw [← text_eq h] at h1
  omega

theorem count_none (t : List UInt8) (w : World) (hs : t.length ≤ 9223372036854775806) (h : isText t = false) :
    Calls Try.prog 52 #[.string (bs t)] w fun e w' => e = .returned (.tuple #[.int .i64 0, .bool false]) ∧ Below w.heap.size w w' :=
  count_bad (bs t) (charsL t) (restL t) w (by rw [bs_size]; exact hs) (by rw [bs_data]; exact parseL t) (text_rest h)

set_option maxHeartbeats 400000 in
theorem allChars_any (v : Value) (Q : List Qt) (w : World) (hp : QsAt w v Q) (hL : Q.length ≤ 9223372036854775806) (hr : ∀ q ∈ Q, q.text.length ≤ 9223372036854775806) :
    Calls Try.prog 43 #[v] w fun e w' => e = .returned (.bool (Q.all (fun q => isText q.text))) ∧ Below w.heap.size w w' := by
  obtain ⟨ao, cap, rfl, hc⟩ := hp
  obtain ⟨R, hR⟩ : ∃ R, R = Q.all (fun q => isText q.text) := ⟨_, rfl⟩
  rw [← hR]
  have HR : Hid (R = Q.all (fun q => isText q.text)) := hR
  have HT : Hid (∀ q ∈ Q, q.text.length ≤ 9223372036854775806) := hr
  clear hR hr
  go_enter Try.func43, Try.ntmps43
  go_wp2
  go_loopw [9] (fun i wr => ∃ k : Nat, k ≤ Q.length ∧ i = .int .i64 k ∧ (Q.take k).all (fun q => isText q.text) = true ∧ Below w.heap.size w wr) (fun i _ => Q.length - (intOf i).toNat)
  case atStart => exact ⟨0, Nat.zero_le _, rfl, by simp, Below.refl _ _⟩
  case round =>
    obtain ⟨k, hk, rfl, hall, hB⟩ := hrel
    have HA : Hid ((Q.take k).all (fun q => isText q.text) = true) := hall
    clear hall
    by_cases hlt : k < Q.length
    · obtain ⟨b, off, rfl, hbl, hcc⟩ := hc (by omega)
      obtain ⟨c0, c1, c2⟩ := hcc k hlt
      rw [← hB.cell (p := ⟨b, _, none⟩) hbl] at c0 c1 c2
      have hz := hB.size
      have htl := HT.out Q[k] (List.getElem_mem hlt)
      cases hq : isText Q[k].text
      · have HQ : Hid (isText Q[k].text = false) := hq
        clear hq
        go_wp2_with (go_at_call 52; refine (count_none Q[k].text _ htl HQ.out).mono ?_; rintro e w' ⟨rfl, hb2⟩)
        go_ret
        exact ⟨by rw [HR.out, all_false_at (fun q : Qt => isText q.text) Q k hlt HQ.out]; rfl, (hB.alloc (by omega) _).trans (hb2.mono (by simp; omega))⟩
      · have HQ : Hid (isText Q[k].text = true) := hq
        clear hq
        go_wp2_with (go_at_call 52; refine (count_text Q[k].text _ htl HQ.out).mono ?_; rintro e w' ⟨rfl, hb2⟩)
        go_roundw
        case rel => exact ⟨k + 1, by omega, by go_num, by rw [take_all_succ (fun q : Qt => isText q.text) Q k hlt, HA.out, HQ.out]; rfl, (hB.alloc (by omega) _).trans (hb2.mono (by simp; omega))⟩
        case measure => simp [intOf]; omega
    · go_wp2
      go_ret
      exact ⟨by rw [HR.out, ← HA.out, List.take_of_length_le (by omega)]; rfl, hB⟩

/-- the errors of an operation. -/
def sumQ (Q : List Qt) : Int := (Q.map (·.num)).sum
def argQ (Q : List Qt) (n : Int) : Bool := (decide (n < 0) || decide (1000000 < n)) || decide (40 < Q.length) || !Q.all rightQ
def errQ (Q : List Qt) (n : Int) : Int := if argQ Q n then 1 else if !Q.all (fun q => isText q.text) then 2 else if n < sumQ Q then 3 else 0

theorem sumQ_pt (L : List Pt) : sumQ (L.map Pt.q) = nums L := by
  induction L with
  | nil => rfl
  | cons p L ih =>
    simp only [sumQ, nums, List.map_cons, List.sum_cons] at *
    rw [ih]; simp [Pt.q]

set_option maxHeartbeats 1000000 in
theorem errorOf_any (v : Value) (Q : List Qt) (n : Int) (w : World) (hp : QsAt w v Q) (hL : Q.length ≤ 9223372036854775806) (hr : ∀ q ∈ Q, q.text.length ≤ 9223372036854775806) (hn1 : -9223372036854775808 ≤ n) (hn2 : n ≤ 9223372036854775807) :
    Calls Try.prog 28 #[v, .int .i64 n] w fun e w' => e = .returned (.int .i64 (errQ Q n)) ∧ Below w.heap.size w w' := by
  have HP : Hid (QsAt w v Q ∧ ∀ q ∈ Q, q.text.length ≤ 9223372036854775806) := ⟨hp, hr⟩
  obtain ⟨ao, cap, rfl, hc⟩ := hp
  clear hc hr
  by_cases g1 : n < 0
  · have he : errQ Q n = 1 := by simp [errQ, argQ, g1]
    rw [he]
    clear he
    go_enter Try.func28, Try.ntmps28
    go_wp2
    go_ret
    exact ⟨rfl, Below.refl _ _⟩
  · by_cases g2 : 1000000 < n
    · have he : errQ Q n = 1 := by simp [errQ, argQ, g2]
      rw [he]
      clear he
      go_enter Try.func28, Try.ntmps28
      go_wp2
      go_ret
      exact ⟨rfl, Below.refl _ _⟩
    · by_cases g3 : 40 < Q.length
      · have he : errQ Q n = 1 := by simp [errQ, argQ, g3]
        rw [he]
        clear he
        go_enter Try.func28, Try.ntmps28
        go_wp2
        go_ret
        exact ⟨rfl, Below.refl _ _⟩
      · have hlen : Q.length ≤ 40 := by omega
        have f1 : 0 ≤ n := by omega
        have f2 : n ≤ 1000000 := by omega
        have a1 : decide (n < 0) = false := decide_eq_false g1
        have a2 : decide (1000000 < n) = false := decide_eq_false g2
        have a3 : decide (40 < Q.length) = false := decide_eq_false g3
        have HA : Hid (argQ Q n = !Q.all rightQ) := by show _ = _; rw [argQ, a1, a2, a3]; rfl
        clear g1 g2 g3 a1 a2 a3
        cases hq : Q.all rightQ
        · have HQ : Hid (Q.all rightQ = false) := hq
          have he : errQ Q n = 1 := by simp [errQ, HA.out, hq]
          rw [he]
          clear he hq
          go_enter Try.func28, Try.ntmps28
          go_wp2_with (go_at_call 42; refine (allRight_any _ Q _ HP.out.1 hL).mono ?_; rintro e w' ⟨rfl, hb2⟩; rw [HQ.out])
          go_ret
          exact ⟨rfl, hb2⟩
        · have HQ : Hid (Q.all rightQ = true) := hq
          clear hq
          cases ht : Q.all (fun q => isText q.text)
          · have HT : Hid (Q.all (fun q => isText q.text) = false) := ht
            have he : errQ Q n = 2 := by simp only [errQ, HA.out, HQ.out, ht]; rfl
            rw [he]
            clear he ht
            go_enter Try.func28, Try.ntmps28
            go_wp2_with fail
            refine (allRight_any _ Q _ HP.out.1 hL).mono ?_
            rintro e w1 ⟨rfl, hb1⟩
            rw [HQ.out]
            go_wp2_with fail
            refine (allChars_any _ Q _ (HP.out.1.below hb1 (Nat.le_refl _)) hL HP.out.2).mono ?_
            rintro e w2 ⟨rfl, hb2⟩
            rw [HT.out]
            go_wp2
            go_ret
            exact ⟨rfl, hb1.trans (hb2.mono hb1.size)⟩
          · have HT : Hid (Q.all (fun q => isText q.text) = true) := ht
            clear ht
            obtain ⟨L, hL2, hQL⟩ := allQ_of HQ.out
            have he : errQ Q n = if n < (nums L : Int) then 3 else 0 := by simp only [errQ, HA.out, HQ.out, HT.out]; rw [hQL, sumQ_pt]; rfl
            have hnL : nums L ≤ 1000000000 := by
              have : ∀ M : List Pt, (∀ p ∈ M, Right p) → nums M ≤ M.length * 1000000 := by
                intro M
                induction M with
                | nil => intro _; simp [nums]
                | cons p M ih =>
                  intro h
                  have h1 := ih (fun q hq => h q (by simp [hq]))
                  have h2 : p.num ≤ 1000000 := by
                    rcases h p (by simp) with ⟨_, _, h, _⟩ | ⟨_, h, _⟩ | ⟨_, _, h, _⟩ <;> omega
                  simp only [nums, List.map_cons, List.sum_cons, List.length_cons] at *
                  omega
              have h9 := this L hL2
              have : L.length = Q.length := by rw [hQL]; simp
              omega
            have HPL : Hid (∀ x, QsAt x (.slice ao Q.length cap) Q → PartsAt x (.slice ao Q.length cap) L) := by
              intro x hx
              rw [hQL] at hx
              have := hx.parts
              rw [hQL]
              exact this
            have hll : L.length ≤ 1000 := by have : L.length = Q.length := by rw [hQL]; simp
                                             omega
            rw [he]
            clear he hQL hL2
            go_enter Try.func28, Try.ntmps28
            go_wp2_with fail
            refine (allRight_any _ Q _ HP.out.1 hL).mono ?_
            rintro e w1 ⟨rfl, hb1⟩
            rw [HQ.out]
            go_wp2_with fail
            refine (allChars_any _ Q _ (HP.out.1.below hb1 (Nat.le_refl _)) hL HP.out.2).mono ?_
            rintro e w2 ⟨rfl, hb2⟩
            rw [HT.out]
            go_wp2_with fail
            refine (reach_any _ L _ (HPL.out _ ((HP.out.1.below hb1 (Nat.le_refl _)).below hb2 (Nat.le_refl _))) hll hnL).mono ?_
            rintro e w3 ⟨rfl, hb3⟩
            have HB : Hid (Below w.heap.size w w3) := (hb1.trans (hb2.mono hb1.size)).trans (hb3.mono (Nat.le_trans hb1.size hb2.size))
            clear hb1 hb2 hb3
            by_cases g4 : n < (nums L : Int)
            · go_wp2
              go_ret
              exact ⟨ret_int (by simp), HB.out⟩
            · go_wp2
              go_ret
              exact ⟨rfl, HB.out⟩

set_option maxHeartbeats 400000 in
theorem Normal_err (v : Value) (Q : List Qt) (n : Int) (w : World) (hp : QsAt w v Q) (hL : Q.length ≤ 9223372036854775806) (hr : ∀ q ∈ Q, q.text.length ≤ 9223372036854775806) (hn1 : -9223372036854775808 ≤ n) (hn2 : n ≤ 9223372036854775807) (he : errQ Q n ≠ 0) :
    Calls Try.prog 14 #[v, .int .i64 n] w fun e w' => e = .returned (.tuple #[.slice none 0 0, .int .i64 (errQ Q n)]) ∧ Below w.heap.size w w' := by
  have HP : Hid (QsAt w v Q ∧ ∀ q ∈ Q, q.text.length ≤ 9223372036854775806) := ⟨hp, hr⟩
  obtain ⟨ao, cap, rfl, hc⟩ := hp
  have hb : (errQ Q n != 0) = true := by rw [bne_iff_ne]; exact he
  obtain ⟨E, hE⟩ : ∃ E, E = errQ Q n := ⟨_, rfl⟩
  rw [← hE] at hb ⊢
  have HE : Hid (E = errQ Q n) := hE
  clear hc hr he hE
  go_enter Try.func14, Try.ntmps14
  go_wp2_with (go_at_call 28; refine (errorOf_any _ Q n _ HP.out.1 hL HP.out.2 hn1 hn2).mono ?_; rintro e w1 ⟨rfl, hb1⟩; rw [← HE.out])
  go_ret2
  exact ⟨rfl, hb1⟩

/-- the operation that a list of right parts is. -/
theorem ok_of_err {Q : List Qt} {n : Int} (h : errQ Q n = 0) (hr : ∀ q ∈ Q, q.text.length ≤ 2000000) : ∃ (L : List Pt) (m : Nat), Q = L.map Pt.q ∧ n = m ∧ OkOp L m := by
  simp only [errQ] at h
  split at h
  · cases h
  · next h1 =>
    split at h
    · cases h
    · next h2 =>
      split at h
      · cases h
      · next h3 =>
        simp only [argQ, Bool.or_eq_true, decide_eq_true_eq, Bool.not_eq_true', not_or] at h1
        obtain ⟨⟨⟨a1, a2⟩, a3⟩, a4⟩ := h1
        have a4' : Q.all rightQ = true := by simpa using a4
        have h2' : Q.all (fun q => isText q.text) = true := by simpa using h2
        obtain ⟨L, hL, rfl⟩ := allQ_of a4'
        rw [sumQ_pt] at h3
        have hlen : L.length ≤ 40 := by simpa using a3
        refine ⟨L, n.toNat, rfl, by omega, ⟨hlen, hL, fun p hp => ?_, by omega, by omega⟩⟩
        have hm : p.q ∈ L.map Pt.q := List.mem_map_of_mem hp
        exact ⟨text_valid (List.all_eq_true.1 h2' _ hm), by have := hr _ hm; simp only [Pt.q] at this; omega⟩

set_option maxHeartbeats 400000 in
theorem errorOn_bad (v : Value) (Q : List Qt) (t : List UInt8) (w : World) (hp : QsAt w v Q) (ht : t.length ≤ 9223372036854775806) (he : isText t = false) :
    Calls Try.prog 30 #[.string (bs t), v] w fun e w' => e = .returned (.int .i64 2) ∧ Below w.heap.size w w' := by
  obtain ⟨ao, cap, rfl, hc⟩ := hp
  have HE : Hid (isText t = false) := he
  clear hc he
  go_enter Try.func30, Try.ntmps30
  go_wp2_with (go_at_call 52; refine (count_none t _ ht HE.out).mono ?_; rintro e w1 ⟨rfl, hb1⟩)
  go_ret
  exact ⟨rfl, hb1⟩

set_option maxHeartbeats 400000 in
theorem errorOn_any (v : Value) (Q : List Qt) (t : List UInt8) (w : World) (hp : QsAt w v Q) (hL : Q.length ≤ 9223372036854775806) (hr : ∀ q ∈ Q, q.text.length ≤ 9223372036854775806) (ht : t.length ≤ 9223372036854775806) (htx : isText t = true) :
    Calls Try.prog 30 #[.string (bs t), v] w fun e w' => e = .returned (.int .i64 (errQ Q (charsL t).length)) ∧ Below w.heap.size w w' := by
  have HP : Hid (QsAt w v Q ∧ ∀ q ∈ Q, q.text.length ≤ 9223372036854775806) := ⟨hp, hr⟩
  obtain ⟨ao, cap, rfl, hc⟩ := hp
  have HX : Hid (isText t = true) := htx
  have hcl : (charsL t).length ≤ 9223372036854775806 := by
    have h1 := chars_len (text_chars t)
    rw [← text_eq htx] at h1
    omega
  clear hc hr htx
  go_enter Try.func30, Try.ntmps30
  go_wp2_with fail
  refine (count_text t _ ht HX.out).mono ?_
  rintro e w1 ⟨rfl, hb1⟩
  go_wp2_with fail
  refine (errorOf_any _ Q _ _ (HP.out.1.below hb1 (Nat.le_refl _)) hL HP.out.2 (by omega) (by omega)).mono ?_
  rintro e w2 ⟨rfl, hb2⟩
  go_wp2
  go_ret
  exact ⟨rfl, hb1.trans (hb2.mono hb1.size)⟩

set_option maxHeartbeats 400000 in
theorem Apply_bad (v : Value) (Q : List Qt) (t : List UInt8) (w : World) (hp : QsAt w v Q) (ht : t.length ≤ 9223372036854775806) (he : isText t = false) :
    Calls Try.prog 16 #[.string (bs t), v] w fun e w' => e = .returned (.tuple #[.string ⟨#[]⟩, .int .i64 2]) ∧ Below w.heap.size w w' := by
  have HE : Hid (QsAt w v Q ∧ isText t = false) := ⟨hp, he⟩
  obtain ⟨ao, cap, rfl, hc⟩ := hp
  clear hc he
  go_enter Try.func16, Try.ntmps16
  go_wp2_with fail
  refine (errorOn_bad _ Q t _ HE.out.1 ht HE.out.2).mono ?_
  rintro e w1 ⟨rfl, hb1⟩
  go_wp2
  go_ret2
  exact ⟨rfl, hb1⟩

set_option maxHeartbeats 400000 in
theorem Apply_err (v : Value) (Q : List Qt) (t : List UInt8) (w : World) (hp : QsAt w v Q) (hL : Q.length ≤ 9223372036854775806) (hr : ∀ q ∈ Q, q.text.length ≤ 9223372036854775806) (ht : t.length ≤ 9223372036854775806) (htx : isText t = true) (he : errQ Q (charsL t).length ≠ 0) :
    Calls Try.prog 16 #[.string (bs t), v] w fun e w' => e = .returned (.tuple #[.string ⟨#[]⟩, .int .i64 (errQ Q (charsL t).length)]) ∧ Below w.heap.size w w' := by
  have HP : Hid (QsAt w v Q ∧ (∀ q ∈ Q, q.text.length ≤ 9223372036854775806) ∧ isText t = true) := ⟨hp, hr, htx⟩
  obtain ⟨ao, cap, rfl, hc⟩ := hp
  have hb : (errQ Q (charsL t).length != 0) = true := by rw [bne_iff_ne]; exact he
  obtain ⟨E, hE⟩ : ∃ E, E = errQ Q (charsL t).length := ⟨_, rfl⟩
  rw [← hE] at hb ⊢
  have HE : Hid (E = errQ Q (charsL t).length) := hE
  clear hc hr he htx hE
  go_enter Try.func16, Try.ntmps16
  go_wp2_with fail
  refine (errorOn_any _ Q t _ HP.out.1 hL HP.out.2.1 ht HP.out.2.2).mono ?_
  rintro e w1 ⟨rfl, hb1⟩
  rw [← HE.out]
  go_wp2
  go_ret2
  exact ⟨rfl, hb1⟩

end Go.Proofs.Ytpiankiacbghcaa
