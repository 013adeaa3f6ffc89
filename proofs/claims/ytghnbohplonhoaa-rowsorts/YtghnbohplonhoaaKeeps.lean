/-
  The books' own Num, Str, At, Row.
-/
import Derived.Test.YtghnbohplonhoaaSame2
namespace Go.Proofs.Ytghnbohplonhoaa
open Go.RowKit
set_option linter.unusedVariables false
set_option linter.unusedSimpArgs false
set_option maxHeartbeats 4000000 in
set_option maxRecDepth 100000 in
theorem num_is (s : List UInt8) (n : Int) (w : World) : Calls Try.prog 9 #[.string (str s), .int .i64 n] w fun e w' => e = .returned (cv ⟨s, 1, n, []⟩) ∧ Ex w w' := by
  go_enter Try.func9, Try.ntmps9
  go_wp2_with fail
  refine bodyPost_ret (v := cv ⟨s, 1, n, []⟩) ?_ rfl ⟨rfl, by (repeat' (first | exact Below.refl _ _ | refine Below.alloc ?_ (by simp <;> omega) _))⟩
  simp [results, Try.results9, go_sem, cv, str]
set_option maxHeartbeats 4000000 in
set_option maxRecDepth 100000 in
theorem strc_is (s t : List UInt8) (w : World) : Calls Try.prog 11 #[.string (str s), .string (str t)] w fun e w' => e = .returned (cv ⟨s, 2, 0, t⟩) ∧ Ex w w' := by
  go_enter Try.func11, Try.ntmps11
  go_wp2_with fail
  refine bodyPost_ret (v := cv ⟨s, 2, 0, t⟩) ?_ rfl ⟨rfl, by (repeat' (first | exact Below.refl _ _ | refine Below.alloc ?_ (by simp <;> omega) _))⟩
  simp [results, Try.results11, go_sem, cv]
set_option maxHeartbeats 4000000 in
set_option maxRecDepth 100000 in
theorem krow_is (r o : Rw) (p : Option Addr) (c : Nat) (p' : Option Addr) (c' : Nat) (w : World) (h : RdC w p c r.c) (h' : RdC w p' c' o.c) (b : Bool) (hb : b = true ↔ r = o) :
    Calls Try.prog 18 #[rvv ⟨r.t, r.q, p, r.c.length, c⟩, rvv ⟨o.t, o.q, p', o.c.length, c'⟩] w fun e w' => e = .returned (.bool b) ∧ Ex w w' := by
  have HX : Hid (Ex w ((w.alloc (rb ⟨r.t, r.q, p, r.c.length, c⟩)).alloc (rb ⟨o.t, o.q, p', o.c.length, c'⟩))) := (((Below.refl _ _).alloc (Nat.le_refl _) _).alloc (by simp) _ : Ex w _)
  have HB : Hid (RdC ((w.alloc (rb ⟨r.t, r.q, p, r.c.length, c⟩)).alloc (rb ⟨o.t, o.q, p', o.c.length, c'⟩)) p c r.c) := h.below HX.out
  have HB' : Hid (RdC ((w.alloc (rb ⟨r.t, r.q, p, r.c.length, c⟩)).alloc (rb ⟨o.t, o.q, p', o.c.length, c'⟩)) p' c' o.c) := h'.below HX.out
  have Hb : Hid (b = true ↔ r = o) := hb
  clear h h' hb
  obtain ⟨t1, ht1⟩ : ∃ x, (r.t == o.t) = x := ⟨_, rfl⟩
  obtain ⟨t2, ht2⟩ : ∃ x, (r.q == o.q) = x := ⟨_, rfl⟩
  have T1 : Hid ((r.t == o.t) = t1) := ht1
  have T2 : Hid ((r.q == o.q) = t2) := ht2
  unfold rvv
  simp only [sv]
  go_enter Try.func18, Try.ntmps18
  cases t1 with
  | false =>
    go_wp2_with fail
    go_ret
    refine ⟨?_, HX.out⟩
    have hr : b = false := by
      cases b with
      | false => rfl
      | true => have := Hb.out.1 rfl; have q := T1.out; rw [this] at q; simp at q
    rw [hr]; rfl
  | true =>
    cases t2 with
    | false =>
      go_wp2_with fail
      go_ret
      refine ⟨?_, HX.out⟩
      have hr : b = false := by
        cases b with
        | false => rfl
        | true => have := Hb.out.1 rfl; have q := T2.out; rw [this] at q; simp at q
      rw [hr]; rfl
    | true =>
      go_wp2_with fail
      refine (cells_is p _ c r.c p' _ c' o.c _ rfl rfl HB.out HB'.out b ?_).mono ?_
      · have q1 := T1.out
        have q2 := T2.out
        simp at q1 q2
        rw [Hb.out]
        exact ⟨fun h => by rw [h], fun h => Rw.ext' q1 q2 h⟩
      rintro e w2 ⟨rfl, hx⟩
      go_wp2_with fail
      go_ret
      exact ⟨rfl, HX.out.trans hx⟩
end Go.Proofs.Ytghnbohplonhoaa
