/-
  Normal and Apply, the program's and the document's, at every operation.
  quilllaw.Operations.
-/
import Derived.Test.YtpiankiacbghcaaQStep
import Derived.Test.YtpiankiacbghcaaRProg
import Derived.Test.YtpiankiacbghcaaRRef14
namespace Go.Proofs.Ytpiankiacbghcaa
open Go.RowKit

theorem opU_of_ok {L : List Pt} {m : Nat} (h : OkOp L m) (hb : tlen L ≤ 2000000) : ∃ us, OpU L us m := by
  obtain ⟨us, hr⟩ := reads_of L h.right fun p hp => (h.texts p hp).1
  have h1 := hr.nums
  exact ⟨us, hr, h.len, by rw [← h1.1]; exact h.fits, h.small, by rw [← h1.2]; exact Nat.le_trans hb (by omega)⟩

theorem texts_of_err {Q : List Qt} {n : Int} (h : errQ Q n = 0) : ∀ q ∈ Q, isText q.text = true := by
  simp only [errQ] at h
  split at h
  · cases h
  · split at h
    · cases h
    · next h2 =>
      have h2' : Q.all (fun q => isText q.text) = true := by simpa using h2
      exact List.all_eq_true.1 h2'

theorem norm_says (Q : List Qt) (A : Int) (h1 : -9223372036854775808 ≤ A) (h2 : A ≤ 9223372036854775807) (hl : Q.length ≤ 1000000000) (ht : tlenQ Q ≤ 2000000) :
    ∃ N err, N.length ≤ 900 ∧ NormSays 14 Q A N err ∧ NormSays 62 Q A N err := by
  have hm : ∀ q ∈ Q, q.text.length ≤ 2000000 := fun q hq => Nat.le_trans (tlenQ_mem hq) ht
  by_cases he : errQ Q A = 0
  · have htx := texts_of_err he
    obtain ⟨L, m, rfl, rfl, hok⟩ := ok_of_err he hm
    rw [tlenQ_map] at ht
    obtain ⟨us, hu⟩ := opU_of_ok hok ht
    have hn : norm L = normU us := hu.reads.norm
    refine ⟨norm L, 0, ?_, fun w x hq hc => ?_, fun w x hq _ => ?_⟩
    · have := (norm_size L hok.right).2
      have := hok.len
      omega
    · refine (Normal_own x L us m w hq.parts hc hu).mono ?_
      rintro e w' ⟨lv, rfl, hr, _, hb⟩
      rw [← hn] at hr
      exact ⟨lv, rfl, hr, .inr rfl, hb⟩
    · refine (rNormal_ok x L m w hq hok ht he (fun p hp => htx _ (List.mem_map_of_mem hp)) fun q hq => Nat.le_trans (hm q hq) (by omega)).mono ?_
      rintro e w' ⟨lv, rfl, hr, hb⟩
      exact ⟨lv, rfl, hr, .inr rfl, hb⟩
  · refine ⟨[], errQ Q A, by simp, fun w x hq _ => ?_, fun w x hq _ => ?_⟩
    · refine (Normal_err x Q A w hq (by omega) (fun q hq => Nat.le_trans (hm q hq) (by omega)) h1 h2 he).mono ?_
      rintro e w' ⟨rfl, hb⟩
      exact ⟨_, rfl, ⟨rfl, .inl ⟨rfl, rfl⟩⟩, .inl rfl, hb⟩
    · refine (rNormal_err x Q A w hq (by omega) (fun q hq => Nat.le_trans (hm q hq) (by omega)) h1 h2 he).mono ?_
      rintro e w' ⟨rfl, hb⟩
      exact ⟨_, rfl, ⟨rfl, .inl ⟨rfl, rfl⟩⟩, .inl rfl, hb⟩

theorem apply_says (t : List UInt8) (Q : List Qt) (hl : Q.length ≤ 1000000000) (ht : tlenQ Q ≤ 2000000) (hs : t.length ≤ 100000000) :
    ∃ r err, ApplySays 16 t Q r err ∧ ApplySays 64 t Q r err := by
  have hm : ∀ q ∈ Q, q.text.length ≤ 2000000 := fun q hq => Nat.le_trans (tlenQ_mem hq) ht
  have hm9 : ∀ q ∈ Q, q.text.length ≤ 1000000000 := fun q hq => Nat.le_trans (hm q hq) (by omega)
  have hm18 : ∀ q ∈ Q, q.text.length ≤ 9223372036854775806 := fun q hq => Nat.le_trans (hm q hq) (by omega)
  cases hx : isText t
  · exact ⟨[], 2, fun w x hq _ => Apply_bad x Q t w hq (by omega) hx, fun w x hq _ => rApply_bad x Q t w hq (by omega) hx⟩
  · by_cases he : errQ Q (charsL t).length = 0
    · have htx := texts_of_err he
      obtain ⟨L, m, rfl, e, hok⟩ := ok_of_err he hm
      have e' : (charsL t).length = m := by omega
      rw [← e'] at hok
      rw [tlenQ_map] at ht
      obtain ⟨us, hu⟩ := opU_of_ok hok ht
      refine ⟨applyP L (charsL t), 0, fun w x hq hc => ?_, fun w x hq _ => ?_⟩
      · have hte := text_eq hx
        have h := Apply_ok x L us (charsL t) w hq.parts hc hu (text_chars t) (by rw [← hte]; omega)
        rw [← hte, ← hu.reads.apply] at h
        exact h
      · exact rApply_ok x L t w hq hok ht hm9 (fun p hp => htx _ (List.mem_map_of_mem hp)) (by omega) hx he
    · exact ⟨[], _, fun w x hq _ => Apply_err x Q t w hq (by omega) hm18 (by omega) hx he, fun w x hq _ => rApply_err x Q t w hq (by omega) hm9 (by omega) hx he⟩

theorem done_says_normal (o : Stp) (hK : o.K = 1) (hs : Small o) : DoneSays o := by
  intro base w kv Vs hk hV ho
  obtain ⟨N, err, hN, h1, h2⟩ := norm_says o.QL o.A hs.lo hs.hi ho.1.2.2 hs.l
  rw [hK]
  exact done_normal base o.A o.B o.C o.D o.S o.L o.M kv o.QL o.QM Vs N err w hk (by omega) ho.1 ho.2 hN h1 h2

theorem done_says_apply (o : Stp) (hK : o.K = 2) (hs : Small o) : DoneSays o := by
  intro base w kv Vs hk _ ho
  obtain ⟨r, err, h1, h2⟩ := apply_says o.S o.QL ho.1.2.2 hs.l (by have := hs.txt; omega)
  rw [hK]
  exact done_apply base o.A o.B o.C o.D o.S o.L o.M kv o.QL o.QM Vs r err w hk ho.1 ho.2 h1 h2

set_option maxHeartbeats 1000000 in
set_option maxRecDepth 100000 in
theorem operations_any (sv : Value) (Ss : List Stp) (w : World) (hs : StepsAt w sv Ss) (hst : ∀ o ∈ Ss, StpOk w.heap.size w o) (hsm : ∀ o ∈ Ss, Small o) (hn : Ss.length ≤ 2000000) :
    Calls Try.prog 3 #[sv] w fun e w' => e = .returned (.bool true) ∧ Below w.heap.size w w' := by
  have hb : Below w.heap.size w (w.alloc (.cells #[.int .i64 1, .int .i64 2] 3)) := (Below.refl _ _).alloc (Nat.le_refl _) _
  have HC : Hid (Calls Try.prog 9 #[sv, .slice (some ⟨w.heap.size, 0, none⟩) 2 2] (w.alloc (.cells #[.int .i64 1, .int .i64 2] 3)) fun e w' => e = .returned (.bool true) ∧ Below w.heap.size w w') := by
    refine (plays_any sv Ss [1, 2] w.heap.size 2 _ (steps_in hs hb) (fun o ho => (hst o ho).mono hb.size fun q hq => hb.block q hq) (ints_of_new w [1, 2]) (by simp) (by simp) hn ?_).mono ?_
    · intro o ho hK
      have hsm2 : Small o := by
        rcases List.mem_append.1 ho with h | h
        · exact first_small _ o h
        · exact hsm o h
      simp only [List.mem_cons, List.not_mem_nil, or_false] at hK
      rcases hK with h | h
      · exact ⟨by omega, by omega, done_says_normal o h hsm2⟩
      · exact ⟨by omega, by omega, done_says_apply o h hsm2⟩
    · rintro e w' ⟨rfl, h⟩
      exact ⟨rfl, hb.trans (h.mono hb.size)⟩
  clear hs hst hsm hb
  go_enter Try.func3, Try.ntmps3
  go_wp2_with fail
  refine HC.out.mono ?_
  rintro e w' ⟨rfl, hbb⟩
  go_wp2
  go_ret
  exact ⟨rfl, hbb⟩

end Go.Proofs.Ytpiankiacbghcaa
