/-
  parts.Apply; ops.Normal, ops.Apply.
-/
import Derived.Test.YtnlafahfcmmehaaWalks7
namespace Go.Proofs.Ytnlafahfcmmehaa
open Go.RowKit

theorem own_below {w w' : World} {C base : Nat} {e : TypeId} {sz : Nat} {v : Value} {n : Nat} {xs : List Value} (h : w.ownsRow base e sz v n xs) (hb : Below C w w') (hC : w.heap.size ≤ C) : w'.ownsRow base e sz v n xs := by
  refine ⟨h.1, ?_⟩
  rcases h.2 with hn | ⟨g, cap, cur, rfl, hbb, hgg, rest⟩
  · exact .inl hn
  · exact .inr ⟨g, cap, cur, rfl, hbb, by rw [hb.block g (Nat.lt_of_lt_of_le (lt_of_blk hgg) hC)]; exact hgg, rest⟩

theorem BldAt.below {T : TypeId} {b o : Nat} {cs : Array Value} {t : List UInt8} {w w' : World} {C : Nat} (h : BldAt T b o cs t w) (hb : Below C w w') (hC : w.heap.size ≤ C) : BldAt T b o cs t w' := by
  obtain ⟨v, hv, hown, hn⟩ := h.buf
  exact ⟨by rw [hb.block b (Nat.lt_of_lt_of_le (lt_of_blk h.blk) hC)]; exact h.blk, h.adr, v, hv, own_below hown hb hC, hn⟩

theorem BldAt.alloc {T : TypeId} {b o : Nat} {cs : Array Value} {t : List UInt8} {w : World} (h : BldAt T b o cs t w) (x : Obj) : BldAt T b o cs t (w.alloc x) :=
  h.below ((Below.refl w.heap.size w).alloc (Nat.le_refl _) x) (Nat.le_refl _)

theorem builderPlace : BldPlace 77 2 0 := ⟨by decide, by decide, by kernel_rfl⟩

theorem applyP_len (L : List Pt) : ∀ cs : List (List UInt8), (applyP L cs).length ≤ cs.flatten.length + tlen L := by
  induction L with
  | nil => intro cs; simp [applyP, tlen]
  | cons p L ih =>
    intro cs
    have h1 := ih (cs.drop p.num)
    have h2 := ih cs
    have h3 : cs.flatten.length = (cs.take p.num).flatten.length + (cs.drop p.num).flatten.length := by rw [← List.length_append, ← flatten_split]
    have h4 : tlen (p :: L) = p.text.length + tlen L := by simp [tlen]
    unfold applyP
    split
    · rw [List.length_append]; omega
    · split
      · rw [List.length_append]; omega
      · omega

theorem applyP_at (L : List Pt) (k : Nat) (h : k < L.length) (cs : List (List UInt8)) : applyP (L.drop k) cs = applyP (L[k] :: L.drop (k + 1)) cs := by rw [List.drop_eq_getElem_cons h]

theorem chars_len {cs : List (List UInt8)} (h : ∀ c ∈ cs, IsCh c) : cs.length ≤ cs.flatten.length := by
  rw [← leads_chars cs h]; exact leads_le _

set_option maxHeartbeats 1000000 in
set_option maxRecDepth 100000 in
theorem pApply_any (v : Value) (L : List Pt) (cs : List (List UInt8)) (w : World) (hp : PartsAt w v L) (hf : Fit L) (hch : ∀ c ∈ cs, IsCh c) (hcl : cs.flatten.length ≤ 1000000) :
    Calls Try.prog 23 #[.string (bs cs.flatten), v] w fun e w' => e = .returned (.string (bs (applyP L cs))) ∧ Below w.heap.size w w' := by
  obtain ⟨ao, cap, rfl, hc⟩ := hp
  have HF : Hid (Fit L) := hf
  have hL := hf.len
  have hT : (applyP L cs).length ≤ 2000000 := by have := applyP_len L cs; have := hf.textsLe; omega
  obtain ⟨R, hR⟩ : ∃ R, R = applyP L cs := ⟨_, rfl⟩
  rw [← hR] at hT ⊢
  have HR : Hid (R = applyP L cs) := hR
  have HC : Hid (∀ c ∈ cs, IsCh c) := hch
  clear hf hch hR
  go_enter Try.func23, Try.ntmps23
  go_wp2
  go_loopw [6, 13] (fun r i wr => ∃ (k : Nat) (cs' : List (List UInt8)) (out : List UInt8) (cb : Array Value), k ≤ L.length ∧ i = .int .i64 k ∧ r = .string (bs cs'.flatten) ∧ (∀ c ∈ cs', IsCh c) ∧ cs'.flatten.length ≤ 1000000 ∧ cb.size = 2 ∧ BldAt 77 w.heap.size 0 cb out wr ∧ out ++ applyP (L.drop k) cs' = R ∧ Below w.heap.size w wr) (fun _ i _ => L.length - (intOf i).toNat)
  case atStart => exact ⟨0, cs, [], #[.pointer none, .slice none 0 0], Nat.zero_le _, rfl, rfl, HC.out, hcl, rfl, ⟨heap_alloc_new w _, .inl rfl, .slice none 0 0, rfl, World.ownsRow_nil _ _ _ _, fun _ => rfl⟩, by rw [HR.out]; rfl, (Below.refl _ _).alloc (Nat.le_refl _) _⟩
  case round =>
    obtain ⟨k, cs', out, cb, hk, rfl, rfl, hch, hcl', hcb, hbd, hout, hB⟩ := hrel
    have HCH : Hid (∀ c ∈ cs', IsCh c) := hch
    have HBD : Hid (BldAt 77 w.heap.size 0 cb out wr) := hbd
    have HO : Hid (out ++ applyP (L.drop k) cs' = R) := hout
    have HCB : Hid (cb.size = 2) := hcb
    have hcl2 : cs'.length ≤ 1000000 := by have := chars_len hch; omega
    have hlw := lt_of_blk hbd.blk
    have hpl : BldPlace 77 cb.size 0 := by rw [hcb]; exact builderPlace
    have HPL : Hid (BldPlace 77 cb.size 0) := hpl
    have ho1 : out.length ≤ 2000000 := by rw [← hout, List.length_append] at hT; omega
    clear hch hbd hout hcb hpl
    by_cases hlt : k < L.length
    · obtain ⟨b, off, rfl, hbl, hcc⟩ := hc (by omega)
      obtain ⟨c0, c1, c2⟩ := hcc k hlt
      rw [← hB.cell (p := ⟨b, _, none⟩) hbl] at c0 c1 c2
      clear hcc hc
      have hnum : L[k].num ≤ 1000000 := Nat.le_trans (le_nums (List.getElem_mem hlt)) HF.out.numsLe
      have htx : L[k].text.length ≤ 1000000 := by
        have h1 := tlen_take_le L (k + 1)
        have h2 := HF.out.textsLe
        rw [List.take_succ_eq_append_getElem hlt, tlen_append] at h1
        have h3 : tlen [L[k]] = L[k].text.length := by simp [tlen]
        omega
      have HO2 : Hid (out ++ applyP (L[k] :: L.drop (k + 1)) cs' = R) := by show _ = _; rw [← applyP_at L k hlt]; exact HO.out
      have h3 : (cs'.take L[k].num).flatten.length + (cs'.drop L[k].num).flatten.length ≤ 1000000 := by rw [← List.length_append, ← flatten_split]; exact hcl'
      have HT : Hid (∀ c ∈ cs'.drop L[k].num, IsCh c) := fun c hc => HCH.out c (List.mem_of_mem_drop hc)
      have hl1 : (cs'.take L[k].num).flatten.length ≤ 1000000 := by omega
      have hl2 : (cs'.drop L[k].num).flatten.length ≤ 1000000 := by omega
      rcases HF.out.right L[k] (List.getElem_mem hlt) with ⟨a1, a2, a3, a4⟩ | ⟨a1, a2, a3⟩ | ⟨a1, a2, a3, a4⟩
      · rw [a1] at c0
        have HA : Hid (applyP (L[k] :: L.drop (k + 1)) cs' = (cs'.take L[k].num).flatten ++ applyP (L.drop (k + 1)) (cs'.drop L[k].num)) := by show _ = _; rw [applyP, if_pos a1]
        clear a1 a4
        go_wp2_with (go_at_call 38; refine (cut_ok (bs cs'.flatten) cs' (L[k].num : Int) _ (by rw [bs_size]; omega) (bs_data _) HCH.out (by omega) (by omega) (by omega)).mono ?_; rintro e w2 ⟨rfl, hb2⟩)
        have hB2 : Below w.heap.size w w2 := (hB.alloc (by omega) _).trans (hb2.mono (by simp; omega))
        refine (writeString_any _ ((HBD.out.alloc _).below hb2 (by simp)) HPL.out (by omega)).mono ?_
        rintro e w3 ⟨rfl, ⟨v', hbd3⟩, hb3, _⟩
        have HB3 : Hid (BldAt 77 w.heap.size 0 ((cb.setIfInBounds 0 (.pointer (some ⟨w.heap.size, 0, none⟩))).setIfInBounds (0 + 1) v') (out ++ (cs'.take L[k].num).flatten) w3 ∧ Below w.heap.size w w3) := ⟨hbd3, hB2.trans hb3⟩
        clear hbd3 hb3 hB2 hb2
        go_wp2
        go_roundw
        case rel => exact ⟨k + 1, cs'.drop L[k].num, _, _, by omega, by go_num, rfl, HT.out, hl2, by simp [HCB.out], HB3.out.1, by rw [← HO2.out, HA.out, List.append_assoc], HB3.out.2⟩
        case measure => simp [intOf]; omega
      · rw [a1] at c0
        have HA : Hid (applyP (L[k] :: L.drop (k + 1)) cs' = L[k].text ++ applyP (L.drop (k + 1)) cs') := by show _ = _; rw [applyP, if_neg (by omega), if_pos a1]
        clear a1 a2 a3
        go_wp2_with fail
        refine (writeString_any _ (HBD.out.alloc _) HPL.out (by omega)).mono ?_
        rintro e w3 ⟨rfl, ⟨v', hbd3⟩, hb3, _⟩
        have HB3 : Hid (BldAt 77 w.heap.size 0 ((cb.setIfInBounds 0 (.pointer (some ⟨w.heap.size, 0, none⟩))).setIfInBounds (0 + 1) v') (out ++ L[k].text) w3 ∧ Below w.heap.size w w3) := ⟨hbd3, (hB.alloc (by omega) _).trans hb3⟩
        clear hbd3 hb3
        go_wp2
        go_roundw
        case rel => exact ⟨k + 1, cs', _, _, by omega, by go_num, rfl, HCH.out, hcl', by simp [HCB.out], HB3.out.1, by rw [← HO2.out, HA.out, List.append_assoc], HB3.out.2⟩
        case measure => simp [intOf]; omega
      · rw [a1] at c0
        have HA : Hid (applyP (L[k] :: L.drop (k + 1)) cs' = applyP (L.drop (k + 1)) (cs'.drop L[k].num)) := by show _ = _; rw [applyP, if_neg (by omega), if_neg (by omega)]
        clear a1 a4
        go_wp2_with (go_at_call 38; refine (cut_ok (bs cs'.flatten) cs' (L[k].num : Int) _ (by rw [bs_size]; omega) (bs_data _) HCH.out (by omega) (by omega) (by omega)).mono ?_; rintro e w2 ⟨rfl, hb2⟩)
        go_roundw
        case rel => exact ⟨k + 1, cs'.drop L[k].num, out, cb, by omega, by go_num, rfl, HT.out, hl2, HCB.out, (HBD.out.alloc _).below hb2 (by simp), by rw [← HO2.out, HA.out], (hB.alloc (by omega) _).trans (hb2.mono (by simp; omega))⟩
        case measure => simp [intOf]; omega
    · have hkk : k = L.length := by omega
      subst hkk
      have HO2 : Hid (out ++ cs'.flatten = R) := by show _ = _; rw [← HO.out, List.drop_length]; rfl
      go_wp2_with fail
      refine (writeString_any _ HBD.out HPL.out (by omega)).mono ?_
      rintro e w3 ⟨rfl, ⟨v', hbd3⟩, hb3, _⟩
      rw [HO2.out] at hbd3
      have HB3 : Hid (BldAt 77 w.heap.size 0 ((cb.setIfInBounds 0 (.pointer (some ⟨w.heap.size, 0, none⟩))).setIfInBounds (0 + 1) v') R w3 ∧ Below w.heap.size w w3) := ⟨hbd3, hB.trans hb3⟩
      clear hbd3 hb3
      go_wp2_with fail
      refine (bString_any HB3.out.1 (by decide)).mono ?_
      rintro e w4 ⟨rfl, hb4⟩
      go_wp2
      go_ret
      exact ⟨rfl, HB3.out.2.trans hb4⟩

set_option maxHeartbeats 400000 in
theorem Normal_ok (v : Value) (L : List Pt) (n : Nat) (w : World) (hp : PartsAt w v L) (hok : OkOp L n) (hf : Fit L) :
    Calls Try.prog 10 #[v, .int .i64 n] w fun e w' => ∃ v', e = .returned (.tuple #[v', .int .i64 0]) ∧ PartsAt w' v' (norm L) ∧ Below w.heap.size w w' := by
  have HP : Hid (PartsAt w v L ∧ OkOp L n ∧ Fit L) := ⟨hp, hok, hf⟩
  obtain ⟨ao, cap, rfl, hc⟩ := hp
  clear hok hf hc
  go_enter Try.func10, Try.ntmps10
  go_wp2_with fail
  refine (errorOf_ok _ L n _ HP.out.1 HP.out.2.1).mono ?_
  rintro e w1 ⟨rfl, hb1⟩
  go_wp2_with fail
  refine (pNormal_any _ L _ (HP.out.1.below hb1 (Nat.le_refl _)) HP.out.2.2).mono ?_
  rintro e w2 ⟨v', rfl, hp2, hb2⟩
  go_wp2
  go_ret2
  exact ⟨v', rfl, hp2, hb1.trans (hb2.mono hb1.size)⟩

set_option maxHeartbeats 400000 in
theorem Apply_ok (v : Value) (L : List Pt) (cs : List (List UInt8)) (w : World) (hp : PartsAt w v L) (hok : OkOp L cs.length) (hf : Fit L) (hch : ∀ c ∈ cs, IsCh c) (hcl : cs.flatten.length ≤ 1000000) :
    Calls Try.prog 12 #[.string (bs cs.flatten), v] w fun e w' => e = .returned (.tuple #[.string (bs (applyP L cs)), .int .i64 0]) ∧ Below w.heap.size w w' := by
  have HP : Hid (PartsAt w v L ∧ OkOp L cs.length ∧ Fit L ∧ ∀ c ∈ cs, IsCh c) := ⟨hp, hok, hf, hch⟩
  have hcl2 : cs.length ≤ 1000000 := by have := chars_len hch; omega
  obtain ⟨ao, cap, rfl, hc⟩ := hp
  clear hok hf hc hch
  go_enter Try.func12, Try.ntmps12
  go_wp2_with fail
  refine (count_ok (bs cs.flatten) cs _ (by rw [bs_size]; omega) (bs_data _) HP.out.2.2.2 (by omega)).mono ?_
  rintro e w1 ⟨rfl, hb1⟩
  go_wp2_with fail
  refine (errorOf_ok _ L cs.length _ (HP.out.1.below hb1 (Nat.le_refl _)) HP.out.2.1).mono ?_
  rintro e w2 ⟨rfl, hb2⟩
  go_wp2_with fail
  refine (pApply_any _ L cs _ ((HP.out.1.below hb1 (Nat.le_refl _)).below hb2 (Nat.le_refl _)) HP.out.2.2.1 HP.out.2.2.2 hcl).mono ?_
  rintro e w3 ⟨rfl, hb3⟩
  go_wp2
  go_ret2
  exact ⟨rfl, (hb1.trans (hb2.mono hb1.size)).trans (hb3.mono (Nat.le_trans hb1.size hb2.size))⟩

end Go.Proofs.Ytnlafahfcmmehaa
