/-
  The document's answer: Normal.
  The document's answer: joined, of, on, Apply.
-/
import Derived.Test.YtpiankiacbghcaaRRef9
namespace Go.Proofs.Ytpiankiacbghcaa
open Go.RowKit

theorem settR_bytes : ∀ (G : List Bool) (l : List (List (List UInt8))), bytesOf (settR G l) ≤ bytesOf l
  | [], l => by simp [settR]
  | b :: G, [] => by simp [settR]
  | b :: G, x :: r => by
    have ih := settR_bytes G r
    rw [settR]
    split
    · split
      · next y r' h =>
        rw [h] at ih
        simp only [bytesOf, List.map_cons, List.sum_cons, List.flatten_append, List.length_append, List.flatten_nil, List.length_nil] at *
        omega
      · simp only [bytesOf, List.map_cons, List.sum_cons, List.map_nil, List.sum_nil] at *
        omega
    · simp only [bytesOf, List.map_cons, List.sum_cons] at *
      omega

theorem Laid.sizes {U : List Pt} {m a T : Nat} {G : List Bool} {X : List (List (List UInt8))} (h : Laid U m a T G X) (hm : m ≤ 1000000) (hT : T ≤ 2000000) : Sizes G (settR G X) ∧ Sizes G (settR G (settR G X)) := by
  have h1 := ne_total h.ne
  have h2 := h.byt
  have h3 := settR_bytes G X
  have h4 := settR_bytes G (settR G X)
  have h5 := settR_total G X
  have h6 := settR_total G (settR G X)
  have hl : X.length = G.length + 1 := by rw [h.xl, h.gl]
  have hl2 := settR_length G X hl
  have hl3 := settR_length G _ hl2
  have hg := h.gl
  exact ⟨⟨hl2, by omega, by omega, by omega⟩, ⟨hl3, by omega, by omega, by omega⟩⟩

theorem Laid.norm {L : List Pt} {m T : Nat} {G : List Bool} {X : List (List (List UInt8))} (h : Laid (unitsOf L) m (nums L) T G X) (hr : ∀ p ∈ L, Right p) (ht : ∀ p ∈ L, isText p.text = true) :
    dropKeep ((units G (settR G (settR G X))).foldl withP []) = norm L := by
  have hl : X.length = G.length + 1 := by rw [h.xl, h.gl]
  have hl2 := settR_length G X hl
  have hu := h.all
  rw [unitsOf_all] at hu
  rw [parts_units G _ (settR_ok G _ hl2) (settR_ne G _ (settR_ne G _ h.ne)), norm_of_steps (settR_steps G _ hl2), norm_of_steps (settR_steps G X hl)]
  refine units_norm (by simp) hr ?_ hu
  intro x hx hk
  obtain ⟨i, hi, rfl⟩ := List.getElem_of_mem hx
  simp only [List.getElem_zip, List.getElem_map]
  exact text_eq (ht _ (List.getElem_mem _))

set_option maxHeartbeats 1000000 in
set_option maxRecDepth 100000 in
theorem rNormal_err (v : Value) (Q : List Qt) (n : Int) (w : World) (hp : QsAt w v Q) (hL : Q.length ≤ 9223372036854775806) (hr : ∀ q ∈ Q, q.text.length ≤ 1000000000) (hn1 : -9223372036854775808 ≤ n) (hn2 : n ≤ 9223372036854775807) (he : errQ Q n ≠ 0) :
    Calls Try.prog 62 #[v, .int .i64 n] w fun e w' => e = .returned (.tuple #[.slice none 0 0, .int .i64 (errQ Q n)]) ∧ Below w.heap.size w w' := by
  have HP : Hid (QsAt w v Q ∧ ∀ q ∈ Q, q.text.length ≤ 1000000000) := ⟨hp, hr⟩
  obtain ⟨ao, cap, rfl, hc⟩ := hp
  have hb : (errQ Q n != 0) = true := by rw [bne_iff_ne]; exact he
  obtain ⟨E, hE⟩ : ∃ E, E = errQ Q n := ⟨_, rfl⟩
  have HE : Hid (E = errQ Q n ∧ errQ Q n ≠ 0) := ⟨hE, he⟩
  rw [← hE] at hb ⊢
  clear hc hr he hE
  go_enter Try.func62, Try.ntmps62
  go_wp2_with (go_at_call 91; refine (Read_err _ Q n _ HP.out.1 hL HP.out.2 hn1 hn2 HE.out.2).mono ?_; rintro e w1 ⟨rfl, hb1⟩; rw [← HE.out.1])
  go_ret2
  exact ⟨rfl, hb1.alloc hb1.size _⟩

set_option maxHeartbeats 1000000 in
set_option maxRecDepth 100000 in
theorem rNormal_ok (v : Value) (L : List Pt) (m : Nat) (w : World) (hp : QsAt w v (L.map Pt.q)) (hok : OkOp L m) (hf : tlen L ≤ 2000000) (he : errQ (L.map Pt.q) m = 0) (ht : ∀ p ∈ L, isText p.text = true) (hr : ∀ q ∈ L.map Pt.q, q.text.length ≤ 1000000000) :
    Calls Try.prog 62 #[v, .int .i64 m] w fun e w' => ∃ r, e = .returned (.tuple #[r, .int .i64 0]) ∧ w'.ownsRow w.heap.size 45 3 r (norm L).length (rowOf (norm L)) ∧ Below w.heap.size w w' := by
  have HP : Hid (QsAt w v (L.map Pt.q) ∧ OkOp L m ∧ tlen L ≤ 2000000 ∧ errQ (L.map Pt.q) m = 0 ∧ (∀ q ∈ L.map Pt.q, q.text.length ≤ 1000000000) ∧ ∀ p ∈ L, isText p.text = true) := ⟨hp, hok, hf, he, hr, ht⟩
  obtain ⟨ao, cap, rfl, hc⟩ := hp
  have hm : m ≤ 1000000 := hok.small
  rw [List.length_map] at HP ⊢
  clear hc hr he hok hf ht
  go_enter Try.func62, Try.ntmps62
  go_wp2_with fail
  refine (Read_ok _ L m _ HP.out.1 HP.out.2.1 HP.out.2.2.1 HP.out.2.2.2.1 HP.out.2.2.2.2.1).mono ?_
  rintro e w1 ⟨gv, iv, G, X, rfl, hd, hld, hb1⟩
  have HD : Hid (DoesAt w.heap.size w1 gv iv G (settR G X) ∧ Laid (unitsOf L) m (nums L) (tlen L) G X ∧ Below w.heap.size w w1) := ⟨hd, hld, hb1⟩
  obtain ⟨ag, cg, rfl, _⟩ := gone_form hd.gone
  obtain ⟨Vs, hI⟩ := hd.ins
  obtain ⟨gi, ci, _, rfl, _⟩ := hI.form (by rw [settR_length G X (by rw [hld.xl, hld.gl])]; omega)
  clear hd hld hb1 hI
  go_wp2_with fail
  have hz := HD.out.2.1.sizes hm HP.out.2.2.1
  refine (rParts_any w.heap.size _ _ G (settR G X) _ (HD.out.1.below ((Below.refl _ _).alloc (Nat.le_refl _) _) (Nat.le_refl _)) hz.1 hz.2).mono ?_
  rintro e w3 ⟨r, rfl, hrow, hb3⟩
  rw [HD.out.2.1.norm HP.out.2.1.right HP.out.2.2.2.2.2] at hrow
  have hsz := HD.out.2.2.size
  have HF : Hid (w3.ownsRow w.heap.size 45 3 r (norm L).length (rowOf (norm L)) ∧ Below w.heap.size w w3) := ⟨own_base hrow (by simp; omega), (HD.out.2.2.alloc hsz _).trans (hb3.mono (by simp; omega))⟩
  clear hrow hb3 hz hsz
  go_wp2
  go_ret2
  exact ⟨_, rfl, HF.out.1, HF.out.2⟩

theorem flatten_take_succ (l : List (List UInt8)) (k : Nat) (h : k < l.length) : (l.take (k + 1)).flatten = (l.take k).flatten ++ l[k] := by
  rw [List.take_succ_eq_append_getElem h, List.flatten_append, List.flatten_singleton]

theorem flatten_take_le (l : List (List UInt8)) (k : Nat) : (l.take k).flatten.length ≤ l.flatten.length := by
  conv => rhs; rw [flatten_split l k]
  simp

set_option maxHeartbeats 1000000 in
set_option maxRecDepth 100000 in
theorem joined_any (base : Nat) (v : Value) (l : List (List UInt8)) (w : World) (h : w.ownsRow base 9 1 v l.length (strV l)) (hl : l.length ≤ 1000000000) (hf : l.flatten.length ≤ 1000000000) :
    Calls Try.prog 94 #[v] w fun e w' => e = .returned (.string (bs l.flatten)) ∧ w' = w := by
  obtain ⟨ao, cap, rfl, hc⟩ : ∃ ao cap, v = .slice ao l.length cap ∧ (0 < l.length → ∃ gs, ao = some ⟨gs, 0, none⟩ ∧ ∀ i (hi : i < l.length), w.cell? ⟨gs, i, none⟩ = some (.string (bs l[i]))) := by
    rcases h.2 with ⟨e, h0⟩ | ⟨gs, cap, cur, e, _⟩
    · exact ⟨none, 0, by rw [e, h0], fun hp => by omega⟩
    · refine ⟨_, _, e, fun _ => ⟨gs, rfl, fun i hi => ?_⟩⟩
      have hcc := h.cells (g := gs) (by rw [e]; rfl) i (.string (bs l[i])) (by rw [strV, List.getElem?_map, List.getElem?_eq_getElem hi]; rfl)
      have hadd : (⟨gs, 0, none⟩ : Addr).add i = ⟨gs, i, none⟩ := by unfold Addr.add; split <;> simp_all
      rw [hadd] at hcc
      exact hcc
  clear h
  go_enter Try.func94, Try.ntmps94
  go_wp2
  go_loopw [3, 4] (fun s ix wr => ∃ i : Nat, i ≤ l.length ∧ ix = .int .i64 i ∧ s = .string (bs (l.take i).flatten) ∧ wr = w) (fun _ ix _ => l.length - (intOf ix).toNat)
  case atStart => exact ⟨0, Nat.zero_le _, rfl, rfl, rfl⟩
  case round =>
    obtain ⟨i, hi, rfl, rfl, rfl⟩ := hrel
    by_cases hlt : i < l.length
    · obtain ⟨gs, rfl, hcc⟩ := hc (by omega)
      have c0 := hcc i hlt
      have hs1 : (bs (l.take i).flatten).size ≤ 1000000000 := by rw [bs_size]; have := flatten_take_le l i; omega
      have hs2 : (bs l[i]).size ≤ 1000000000 := by
        rw [bs_size]
        have h1 := flatten_take_le l (i + 1)
        rw [flatten_take_succ l i hlt, List.length_append] at h1
        omega
      clear hc hcc
      go_wp2
      go_roundw
      case rel => exact ⟨i + 1, by omega, by go_num, by rw [bs_append, ← flatten_take_succ l i hlt], by first | trivial | rfl⟩
      case measure => simp [intOf]; omega
    · have hii : i = l.length := by omega
      subst hii
      rw [List.take_length]
      go_wp2
      go_ret
      exact ⟨rfl, by first | trivial | rfl⟩

end Go.Proofs.Ytpiankiacbghcaa
