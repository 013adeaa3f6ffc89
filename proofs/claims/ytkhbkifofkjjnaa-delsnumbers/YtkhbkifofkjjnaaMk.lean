/-
  The landed marks in memory: OnesCount64, isPlace, bitOf, unmarked; New, Has, Set, Rows, Count.
-/
import Derived.Test.YtkhbkifofkjjnaaDwords
import Derived.Test.YtkhbkifofkjjnaaTouch
import Derived.Test.YtkhbkifofkjjnaaZstep
import Derived.Deep.QuietTactic
import Derived.BigQuiet
namespace Go.Proofs.Ytkhbkifofkjjnaa
open Go.RowKit
set_option linter.unusedVariables false
set_option linter.unusedSimpArgs false
theorem and64 (a b : Nat) (h1 : a < 18446744073709551616) (h2 : b < 18446744073709551616) : bits .and .u64 (a : Int) (b : Int) = ((a &&& b : Nat) : Int) :=
  (bits_nat .u64 64 (by decide) I.wraps64 a b h1 h2).1
theorem or64i (a b : Nat) (h1 : a < 18446744073709551616) (h2 : b < 18446744073709551616) : bits .or .u64 (a : Int) (b : Int) = ((a ||| b : Nat) : Int) :=
  (bits_nat .u64 64 (by decide) I.wraps64 a b h1 h2).2
theorem and63 (a b : Nat) (h1 : a < 9223372036854775808) (h2 : b < 9223372036854775808) : bits .and .i64 (a : Int) (b : Int) = ((a &&& b : Nat) : Int) :=
  (bits_nat .i64 63 (by decide) (fun n h h2 => by rw [IntKind.wrap_i64]; omega) a b h1 h2).1
set_option maxRecDepth 100000 in
set_option maxHeartbeats 1000000 in
theorem ones_is (x : Nat) (w : World) (hx : x < 18446744073709551616) (r : Nat) (hr : Lib.onesCount x = r) :
    Calls Try.prog 35 #[.int .u64 (x : Int)] w fun e w' => e = .returned (.int .i64 (r : Int)) ∧ w' = w := by
  obtain ⟨h1, h2, h3, h4, h5, h6, h7, h8⟩ := Pc.y6_is hx
  have h9 := (Pc.y3_is hx).2
  rw [hr] at h1 h8
  obtain ⟨A1, hA1⟩ : ∃ A, A = (x / 2 &&& 6148914691236517205) := ⟨_, rfl⟩
  obtain ⟨B1, hB1⟩ : ∃ B, B = (x &&& 6148914691236517205) := ⟨_, rfl⟩
  obtain ⟨q1, hq1⟩ : ∃ q, q = x / 2 := ⟨_, rfl⟩
  have i1 : (x : Int) / 2 = (q1 : Int) := by omega
  have j1 : bits .and .u64 (q1 : Int) 6148914691236517205 = (A1 : Int) := by
    have := and64 q1 6148914691236517205 (by omega) (by omega)
    rw [hA1, ← hq1]; exact this
  have k1 : bits .and .u64 (x : Int) 6148914691236517205 = (B1 : Int) := by
    have := and64 x 6148914691236517205 (by omega) (by omega)
    rw [hB1]; exact this
  have s1 : (A1 : Int) + (B1 : Int) = (Pc.y1 x : Int) := by rw [hA1, hB1]; unfold Pc.y1; omega
  obtain ⟨y1, hy1⟩ : ∃ y, y = Pc.y1 x := ⟨_, rfl⟩
  rw [← hy1] at s1 h7
  obtain ⟨A2, hA2⟩ : ∃ A, A = (y1 / 4 &&& 3689348814741910323) := ⟨_, rfl⟩
  obtain ⟨B2, hB2⟩ : ∃ B, B = (y1 &&& 3689348814741910323) := ⟨_, rfl⟩
  obtain ⟨q2, hq2⟩ : ∃ q, q = y1 / 4 := ⟨_, rfl⟩
  have i2 : (y1 : Int) / 4 = (q2 : Int) := by omega
  have j2 : bits .and .u64 (q2 : Int) 3689348814741910323 = (A2 : Int) := by
    have := and64 q2 3689348814741910323 (by omega) (by omega)
    rw [hA2, ← hq2]; exact this
  have k2 : bits .and .u64 (y1 : Int) 3689348814741910323 = (B2 : Int) := by
    have := and64 y1 3689348814741910323 (by omega) (by omega)
    rw [hB2]; exact this
  have s2 : (A2 : Int) + (B2 : Int) = (Pc.y2 x : Int) := by rw [hA2, hB2]; unfold Pc.y2; rw [← hy1]; omega
  obtain ⟨y2, hy2⟩ : ∃ y, y = Pc.y2 x := ⟨_, rfl⟩
  rw [← hy2] at s2 h6 h9
  obtain ⟨q3, hq3⟩ : ∃ q, q = y2 / 16 := ⟨_, rfl⟩
  have i3 : (y2 : Int) / 16 = (q3 : Int) := by omega
  obtain ⟨z3, hz3⟩ : ∃ z, z = q3 + y2 := ⟨_, rfl⟩
  have s3 : (q3 : Int) + (y2 : Int) = (z3 : Int) := by omega
  obtain ⟨y3, hy3⟩ : ∃ y, y = Pc.y3 x := ⟨_, rfl⟩
  have j3 : bits .and .u64 (z3 : Int) 1085102592571150095 = (y3 : Int) := by
    have := and64 z3 1085102592571150095 (by omega) (by omega)
    rw [hy3]; unfold Pc.y3; rw [← hy2, ← hq3, ← hz3]; exact this
  obtain ⟨y4, hy4⟩ : ∃ y, y = Pc.y4 x := ⟨_, rfl⟩
  obtain ⟨q4, hq4⟩ : ∃ q, q = y3 / 256 := ⟨_, rfl⟩
  have i4 : (y3 : Int) / 256 = (q4 : Int) := by omega
  have s4 : (y3 : Int) + (q4 : Int) = (y4 : Int) := by rw [hy4]; unfold Pc.y4; rw [← hy3]; omega
  obtain ⟨y5, hy5⟩ : ∃ y, y = Pc.y5 x := ⟨_, rfl⟩
  obtain ⟨q5, hq5⟩ : ∃ q, q = y4 / 65536 := ⟨_, rfl⟩
  have i5 : (y4 : Int) / 65536 = (q5 : Int) := by omega
  have s5 : (y4 : Int) + (q5 : Int) = (y5 : Int) := by rw [hy5]; unfold Pc.y5; rw [← hy4]; omega
  obtain ⟨y6, hy6⟩ : ∃ y, y = Pc.y6 x := ⟨_, rfl⟩
  obtain ⟨q6, hq6⟩ : ∃ q, q = y5 / 4294967296 := ⟨_, rfl⟩
  have i6 : (y5 : Int) / 4294967296 = (q6 : Int) := by omega
  have s6 : (y5 : Int) + (q6 : Int) = (y6 : Int) := by rw [hy6]; unfold Pc.y6; rw [← hy5]; omega
  rw [← hy6] at h1 h2 h3
  rw [← hy5] at h3 h4
  rw [← hy4] at h4 h5
  rw [← hy3] at h5
  clear hA1 hB1 hq1 hy1 hA2 hB2 hq2 hy2 hy3 hy4 hq4 hy5 hq5 hy6 hq6
  have b6 : y6 < 9223372036854775808 := h2
  have j7 : bits .and .i64 (y6 : Int) 127 = (r : Int) := by
    have := and63 y6 127 h2 (by omega)
    rw [show (127 : Nat) = 2 ^ 7 - 1 from rfl, Nat.and_two_pow_sub_one_eq_mod] at this
    rw [← h1]; exact this
  have b3 : z3 < 18446744073709551616 := by omega
  have b5 : y5 < 18446744073709551616 := by omega
  have b4 : y4 < 18446744073709551616 := by omega
  clear h3 h4 h5 hq3 hz3 h9
  go_enter Try.func35, Try.ntmps35
  go_wp2
  go_ret
  exact ⟨rfl, rfl⟩
set_option maxRecDepth 100000 in
theorem bitof_is (k : Nat) (w : World) (hk : k ≤ 1048576) (r : Nat) (hr : 2 ^ (k % 64) = r) :
    Calls Try.prog 29 #[.int .i64 (k : Int)] w fun e w' => e = .returned (.int .u64 (r : Int)) ∧ w' = w := by
  obtain ⟨m, hm⟩ : ∃ m, m = k % 64 := ⟨_, rfl⟩
  have hmi : (k : Int).tmod 64 = (m : Int) := by rw [Int.tmod_eq_emod_of_nonneg (by omega)]; omega
  have hm64 : m < 64 := by omega
  rw [← hm] at hr
  have hrl : r < 18446744073709551616 := by rw [← hr]; exact Dl.pow64 hm64
  have hw : IntKind.u64.wrap (2 ^ m) = (r : Int) := by rw [show (2 : Int) ^ m = (r : Int) by rw [← hr]; simp]; exact I.wraps64 _ (by omega) (by omega)
  clear hm hr
  go_enter Try.func29, Try.ntmps29
  go_wp2
  go_ret
  exact ⟨rfl, rfl⟩
theorem Rg.good_nil {P : Program} {ops : Array Oper} {specs : List Rg.Spec} {a0 : Act} {C : World → Prop} {E : World → World → Prop} {o : Oper} {x : Operand} {q : Addr} (hrefl : ∀ w, E w w) (ho : o.op = .nilCheck x) (hg : Rg.guardV ops specs a0 o = some true)
    (hx : Rg.argS ops specs a0 x = .inl (.pointer (some q))) : Rg.GoodOp P ops specs a0 C E o (.inl (.pointer (some q))) :=
  Rg.good_val hrefl hg fun a w hC hh => by
    have h1 := hh x (by rw [ho]; simp [Op.operands])
    rw [hx] at h1
    simp only [Rg.Spec.ok] at h1
    refine ⟨.pointer (some q), ?_, rfl⟩
    unfold execOp
    rw [ho]
    simp only [h1]
    rfl
end Go.Proofs.Ytkhbkifofkjjnaa
namespace Go.Proofs.Ytkhbkifofkjjnaa
open Go.RowKit
set_option linter.unusedVariables false
set_option linter.unusedSimpArgs false
/-- The struct's own block. -/
def MB (w : World) (g h n q : Nat) : Prop := w.heap[g]? = some (.cells [Value.int .i64 (n : Int), Value.slice (some ⟨h, 0, none⟩) q q].toArray 52 (0, 0))
theorem MB.all {w : World} {g h n q : Nat} (H : MB w g h n q) : w.cell? ⟨g, 0, none⟩ = some (.int .i64 (n : Int)) ∧ w.cell? ⟨g, 1, none⟩ = some (.slice (some ⟨h, 0, none⟩) q q) :=
  ⟨by rw [cell_of_row w g 0 _ 52 (0, 0) H]; rfl, by rw [cell_of_row w g 1 _ 52 (0, 0) H]; rfl⟩
theorem MB.keep {w w' : World} {g h n q : Nat} (H : MB w g h n q) (hk : w'.heap[g]? = w.heap[g]?) : MB w' g h n q := by
  unfold MB; rw [hk]; exact H
/-- A pointer to marks. -/
def Mk (w : World) (v : Value) (fp : Nat → Prop) (ws : List Bool) : Prop :=
  ∃ g h us, v = .pointer (some ⟨g, 0, none⟩) ∧ MB w g h ws.length us.length ∧ RowAt n64 53 w h us ∧ g ≠ h ∧ ws.length ≤ 1048576 ∧ Dl.Wd us ws ∧ fp = fun k => k = g ∨ k = h
theorem Mk.some_ {w : World} {v : Value} {fp : Nat → Prop} {ws : List Bool} (h : Mk w v fp ws) : ∃ g, v = .pointer (some ⟨g, 0, none⟩) := by
  obtain ⟨g, _, _, hv, _⟩ := h; exact ⟨g, hv⟩
theorem Mk.len {w : World} {v : Value} {fp : Nat → Prop} {ws : List Bool} (h : Mk w v fp ws) : ws.length ≤ 1048576 := by
  obtain ⟨_, _, _, _, _, _, _, hl, _⟩ := h; exact hl
theorem Mk.lt {w : World} {v : Value} {fp : Nat → Prop} {ws : List Bool} (h : Mk w v fp ws) : ∀ k, fp k → k < w.heap.size := by
  obtain ⟨g, q, us, _, hg, hr, _, _, _, rfl⟩ := h
  rintro k (rfl | rfl)
  · exact (Array.getElem?_eq_some_iff.1 hg).1
  · exact hr.lt
theorem Mk.keep {w w' : World} {v : Value} {fp : Nat → Prop} {ws : List Bool} (h : Mk w v fp ws) (hk : ∀ k, fp k → w'.heap[k]? = w.heap[k]?) : Mk w' v fp ws := by
  obtain ⟨g, q, us, hv, hg, hr, hne, hl, hd, rfl⟩ := h
  exact ⟨g, q, us, hv, hg.keep (hk g (.inl rfl)), hr.keep (hk q (.inr rfl)), hne, hl, hd, rfl⟩
theorem Mk.below {w w' : World} {v : Value} {fp : Nat → Prop} {ws : List Bool} (h : Mk w v fp ws) (hx : Ex w w') : Mk w' v fp ws := h.keep fun k hk => hx.block k (h.lt k hk)
theorem Mk.touch {w w' : World} {v : Value} {fp fq : Nat → Prop} {ws : List Bool} (h : Mk w v fp ws) (ht : Touch fq w w') (hd : ∀ k, fp k → ¬ fq k) : Mk w' v fp ws := h.keep fun k hk => ht.block k (h.lt k hk) (hd k hk)
theorem cell0 {w : World} {g : Nat} {x : Value} {t : TypeId} (h : w.heap[g]? = some (.cells [x].toArray t (0, 0))) : w.cell? ⟨g, 0, none⟩ = some x := by
  rw [cell_of_row w g 0 _ t (0, 0) h]; rfl
set_option maxRecDepth 100000 in
theorem unm_is (n : Nat) (w : World) (h : n ≤ 1048576) :
    Calls Try.prog 23 #[.int .i64 (n : Int)] w fun e w' => ∃ v fp, e = .returned v ∧ Mk w' v fp (List.replicate n false) ∧ (∀ k, fp k → w.heap.size ≤ k) ∧ Ex w w' := by
  obtain ⟨q, hq⟩ : ∃ q, q = (n + 63) / 64 := ⟨_, rfl⟩
  have hqi : ((n : Int) + 64 - 1).tdiv 64 = (q : Int) := by rw [Int.tdiv_eq_ediv_of_nonneg (by omega)]; omega
  have hq2 : ((n : Int) + 64 - 1) / 64 = (q : Int) := by omega
  have hql : q ≤ 16384 := by omega
  have HQ : Hid (q = (n + 63) / 64) := hq
  clear hq
  go_enter Try.func23, Try.ntmps23
  go_wp2_with (at_make; refine wpList_make_row (enc := n64) rfl _ _ 50 53 rfl 0 8 Try.underlying50 rfl Try.info53 _ _ q rfl rfl (by first | rfl | exact hq2 | exact hqi) (by first | rfl | exact hq2 | exact hqi) (by omega) (by omega) ?_; intro w1 hr1 hb1)
  go_ret
  have hlt := hr1.lt
  have hbx : Ex w1 (w1.alloc (.cells [Value.int .i64 (n : Int), Value.slice (some ⟨w.heap.size, 0, none⟩) q q].toArray 52)) := (Below.refl _ _).alloc (Nat.le_refl _) _
  refine ⟨_, fun k => k = w1.heap.size ∨ k = w.heap.size, rfl, ⟨w1.heap.size, w.heap.size, List.replicate q 0, rfl, ?_, hr1.below hbx, by omega, by simpa using h, by rw [HQ.out]; exact Dl.wd_new n, rfl⟩, ?_, Ex.trans (show Ex w w1 from hb1) hbx⟩
  · have hh := heap_alloc_new w1 (.cells [Value.int .i64 (n : Int), Value.slice (some ⟨w.heap.size, 0, none⟩) q q].toArray 52)
    unfold MB
    rw [List.length_replicate, List.length_replicate]
    exact hh
  · rintro k (rfl | rfl)
    · omega
    · exact Nat.le_refl _
set_option maxRecDepth 100000 in
theorem new_bad (r : Int) (w : World) (h1 : -9223372036854775808 ≤ r) (h2 : r ≤ 9223372036854775807) (h : r < 0 ∨ 1048576 < r) :
    Calls Try.prog 8 #[.int .i64 r] w fun e w' => e = .returned (.tuple #[.pointer none, .int .i64 1]) ∧ Ex w w' := by
  by_cases hr : r < 0
  · have t1 : decide (r < 0) = true := by simp; omega
    go_enter Try.func8, Try.ntmps8
    go_wp2
    go_ret2
    exact ⟨rfl, Ex.refl _⟩
  · have t1 : decide (r < 0) = false := by simp; omega
    have t2 : decide (1048576 < r) = true := by simp; omega
    go_enter Try.func8, Try.ntmps8
    go_wp2
    go_ret2
    exact ⟨rfl, Ex.refl _⟩
set_option maxRecDepth 100000 in
theorem new_ok (n : Nat) (w : World) (h : n ≤ 1048576) :
    Calls Try.prog 8 #[.int .i64 (n : Int)] w fun e w' => ∃ v fp, e = .returned (.tuple #[v, .int .i64 0]) ∧ Mk w' v fp (List.replicate n false) ∧ (∀ k, fp k → w.heap.size ≤ k) ∧ Ex w w' := by
  have t1 : decide ((n : Int) < 0) = false := by simp
  have t2 : decide ((1048576 : Int) < (n : Int)) = false := by simp; omega
  go_enter Try.func8, Try.ntmps8
  go_wp2_with fail
  refine (unm_is n _ h).mono ?_
  rintro e w1 ⟨v, fp, rfl, hm, hf, hx⟩
  have HM : Hid (Mk w1 v fp (List.replicate n false)) := hm
  have HF : Hid (∀ k, fp k → w.heap.size ≤ k) := hf
  have HX : Hid (Ex w w1) := hx
  obtain ⟨g, rfl⟩ := hm.some_
  clear hm hf hx
  go_wp2_with fail
  go_ret2
  exact ⟨_, fp, rfl, HM.out, HF.out, HX.out⟩
set_option maxRecDepth 100000 in
theorem isplace_is (g h n q : Nat) (i : Int) (w : World) (hm : MB w g h n q) (r : Bool) (hr : decide (0 ≤ i ∧ i < (n : Int)) = r) :
    Calls Try.prog 28 #[.pointer (some ⟨g, 0, none⟩), .int .i64 i] w fun e w' => e = .returned (.bool r) ∧ w' = w := by
  obtain ⟨c0, c1⟩ := hm.all
  subst hr
  by_cases hi : 0 ≤ i
  · have t1 : decide (0 ≤ i) = true := by simp; omega
    have e1 : decide (0 ≤ i ∧ i < (n : Int)) = decide (i < (n : Int)) := by rw [decide_eq_decide]; omega
    rw [e1]
    clear e1
    go_enter Try.func28, Try.ntmps28
    go_wp2
    go_ret
    exact ⟨rfl, rfl⟩
  · have t1 : decide (0 ≤ i) = false := by simp; omega
    rw [decide_eq_false (show ¬ (0 ≤ i ∧ i < (n : Int)) by omega)]
    go_enter Try.func28, Try.ntmps28
    go_wp2
    go_ret
    exact ⟨rfl, rfl⟩
set_option maxRecDepth 100000 in
set_option maxHeartbeats 1000000 in
theorem has_q (v : Value) (fp : Nat → Prop) (ws : List Bool) (i : Int) (w : World) (h : Mk w v fp ws) (h1 : -9223372036854775808 ≤ i) (h2 : i ≤ 9223372036854775807) (r : Bool) (hr : Dl.has ws i = r) :
    Calls Try.prog 13 #[v, .int .i64 i] w fun e w' => e = .returned (.bool r) ∧ ∃ m, w' = w.drewN m := by
  obtain ⟨g, q, us, rfl, hg, hrow, hne, hl, hwd, rfl⟩ := h
  have HG : Hid (MB w g q ws.length us.length) := hg
  have HGd : Hid (∀ m, MB (w.drewN m) g q ws.length us.length) := (fun m => hg.keep (by simp [World.drewN]) : ∀ m, MB (w.drewN m) g q ws.length us.length)
  obtain ⟨c0, c1⟩ := hg.all
  by_cases hi : 0 ≤ i ∧ i < (ws.length : Int)
  · obtain ⟨k, rfl⟩ : ∃ k : Nat, i = (k : Int) := ⟨i.toNat, by omega⟩
    have hk : k < ws.length := by omega
    have hj := Dl.wd_lt hwd hk
    obtain ⟨j, hjd⟩ : ∃ j, j = k / 64 := ⟨_, rfl⟩
    have hji : (k : Int).tdiv 64 = (j : Int) := by rw [Int.tdiv_eq_ediv_of_nonneg (by omega)]; omega
    have hj2 : (k : Int) / 64 = (j : Int) := by omega
    rw [← hjd] at hj
    have hck := hrow.cell hj
    have hh := Dl.wd_has hwd k
    have hul := Dl.wd_word hwd j
    rw [← hjd] at hh
    rw [List.getD_eq_getElem?_getD, List.getElem?_eq_getElem hj] at hh hul
    simp only [Option.getD_some] at hh hul
    obtain ⟨u, hu⟩ : ∃ u, u = us[j] := ⟨_, rfl⟩
    rw [← hu] at hck hh hul
    obtain ⟨sh, hsh⟩ : ∃ sh, 2 ^ (k % 64) = sh := ⟨_, rfl⟩
    have hshl : sh < 18446744073709551616 := by rw [← hsh]; exact Dl.pow64 (by omega)
    rw [hsh] at hh
    have HSh : Hid (2 ^ (k % 64) = sh) := hsh
    have hck' : w.cell? ⟨q, j, none⟩ = some (.int .u64 (u : Int)) := hck
    obtain ⟨m, hm⟩ : ∃ m, m = (u &&& sh) := ⟨_, rfl⟩
    have ha : bits .and .u64 (u : Int) (sh : Int) = (m : Int) := by rw [hm]; exact and64 u sh hul hshl
    have hz : ((m : Int) != 0) = r := by
      rw [← hr, Dl.has_nat]
      rw [← hm] at hh
      cases hb : ws.getD k false with
      | true =>
        have : m ≠ 0 := fun h0 => by rw [hh.1 h0] at hb; cases hb
        simp; omega
      | false => rw [hh.2 hb]; rfl
    have HP : Hid (decide (0 ≤ (k : Int) ∧ (k : Int) < (ws.length : Int)) = true) := decide_eq_true hi
    have hjl : (j : Int) < (us.length : Int) := by omega
    have hkb : k ≤ 1048576 := by omega
    clear hh hu hm hsh hck hr hi hg hrow hwd hjd
    go_enter Try.func13, Try.ntmps13
    go_wp2_with fail
    go_quiet (first | (go_at_call 28; refine Calls.quiet_of_same (isplace_is g q ws.length us.length _ _ (HGd.out _) true HP.out)) | (go_at_call 29; refine Calls.quiet_of_same (bitof_is k _ hkb sh HSh.out)))
    go_wp2_with fail
    go_ret
    exact ⟨rfl, _, rfl⟩
  · have HP : Hid (decide (0 ≤ i ∧ i < (ws.length : Int)) = false) := decide_eq_false hi
    have hrf : r = false := by rw [← hr]; exact Dl.has_out (by omega)
    subst hrf
    clear hr hi hg hrow hwd
    go_enter Try.func13, Try.ntmps13
    go_wp2_with fail
    go_quiet ((go_at_call 28; refine Calls.quiet_of_same (isplace_is g q ws.length us.length _ _ (HGd.out _) false HP.out)))
    go_wp2_with fail
    go_ret
    exact ⟨rfl, _, rfl⟩
end Go.Proofs.Ytkhbkifofkjjnaa
namespace Go.Proofs.Ytkhbkifofkjjnaa
open Go.RowKit
set_option linter.unusedVariables false
set_option linter.unusedSimpArgs false
theorem has_is (v : Value) (fp : Nat → Prop) (ws : List Bool) (i : Int) (w : World) (h : Mk w v fp ws) (h1 : -9223372036854775808 ≤ i) (h2 : i ≤ 9223372036854775807) (r : Bool) (hr : Dl.has ws i = r) :
    Calls Try.prog 13 #[v, .int .i64 i] w fun e w' => e = .returned (.bool r) ∧ Ex w w' :=
  (has_q v fp ws i w h h1 h2 r hr).mono fun e w' ⟨he, m, hw⟩ => ⟨he, by rw [hw]; exact (Ex.refl w).trans (Ex.drewN _ _)⟩
/-- What Set leaves. -/
def Dl.setB (ws : List Bool) (i : Int) : Bool := decide (0 ≤ i) && decide (i < (ws.length : Int)) && !Dl.has ws i
def Dl.setW (ws : List Bool) (i : Int) : List Bool := if Dl.setB ws i = true then ws.set i.toNat true else ws
set_option maxRecDepth 100000 in
set_option maxHeartbeats 1000000 in
theorem set_is (v : Value) (fp : Nat → Prop) (ws : List Bool) (i : Int) (w : World) (h : Mk w v fp ws) (h1 : -9223372036854775808 ≤ i) (h2 : i ≤ 9223372036854775807) (r : Bool) (hr : Dl.setB ws i = r) (ws' : List Bool) (hs : Dl.setW ws i = ws') :
    Calls Try.prog 14 #[v, .int .i64 i] w fun e w' => e = .returned (.bool r) ∧ ∃ fp', Mk w' v fp' ws' ∧ Touch fp w w' ∧ ∀ k, fp' k → fp k ∨ w.heap.size ≤ k := by
  have HM : Hid (Mk w v fp ws) := h
  obtain ⟨g, q, us, rfl, hg, hrow, hne, hl, hwd, hfp⟩ := h
  have HG : Hid (MB w g q ws.length us.length) := hg
  have HFp : Hid (fp = fun k => k = g ∨ k = q) := hfp
  unfold Dl.setW at hs
  rw [hr] at hs
  by_cases hi : 0 ≤ i ∧ i < (ws.length : Int)
  · have HP : Hid (decide (0 ≤ i ∧ i < (ws.length : Int)) = true) := decide_eq_true hi
    rw [Dl.setB, decide_eq_true hi.1, decide_eq_true hi.2] at hr
    simp only [Bool.true_and] at hr
    cases r with
    | false =>
      have HH : Hid (Dl.has ws i = true) := (by simpa using hr : Dl.has ws i = true)
      rw [if_neg (by simp)] at hs
      subst hs
      clear hr hi hg hrow hwd hfp
      go_enter Try.func14, Try.ntmps14
      go_wp2_with fail
      refine (isplace_is g q ws.length us.length i _ HG.out true HP.out).mono ?_
      rintro e w1 ⟨rfl, hw⟩; have hw' := hw.symm; clear hw; subst hw'
      go_wp2_with fail
      refine (has_is _ fp ws i _ HM.out h1 h2 true HH.out).mono ?_
      rintro e w2 ⟨rfl, hx⟩
      have HX : Hid (Ex w w2) := hx
      clear hx
      go_wp2_with fail
      go_ret
      exact ⟨rfl, fp, HM.out.below HX.out, Touch.of_ex HX.out, fun k hk => .inl hk⟩
    | true =>
      have hhf : Dl.has ws i = false := by simpa using hr
      have HH : Hid (Dl.has ws i = false) := hhf
      rw [if_pos rfl] at hs
      obtain ⟨k, rfl⟩ : ∃ k : Nat, i = (k : Int) := ⟨i.toNat, by omega⟩
      rw [Int.toNat_natCast] at hs
      subst hs
      have hk : k < ws.length := by omega
      have hkb : k ≤ 1048576 := by omega
      have hj := Dl.wd_lt hwd hk
      obtain ⟨j, hjd⟩ : ∃ j, j = k / 64 := ⟨_, rfl⟩
      have hji : (k : Int).tdiv 64 = (j : Int) := by rw [Int.tdiv_eq_ediv_of_nonneg (by omega)]; omega
      have hj2 : (k : Int) / 64 = (j : Int) := by omega
      have hul := Dl.wd_word hwd j
      have hw2 := Dl.wd_set hwd hk
      rw [← hjd] at hj hw2
      rw [List.getD_eq_getElem?_getD, List.getElem?_eq_getElem hj] at hul hw2
      simp only [Option.getD_some] at hul hw2
      obtain ⟨u, hu⟩ : ∃ u, u = us[j] := ⟨_, rfl⟩
      rw [← hu] at hul hw2
      obtain ⟨sh, hsh⟩ : ∃ sh, 2 ^ (k % 64) = sh := ⟨_, rfl⟩
      have hshl : sh < 18446744073709551616 := by rw [← hsh]; exact Dl.pow64 (by omega)
      rw [hsh] at hw2
      have HSh : Hid (2 ^ (k % 64) = sh) := hsh
      obtain ⟨m, hm⟩ : ∃ m, m = (u ||| sh) := ⟨_, rfl⟩
      have ho : bits .or .u64 (u : Int) (sh : Int) = (m : Int) := by rw [hm]; exact or64i u sh hul hshl
      rw [← hm] at hw2
      have hml : m < 18446744073709551616 := by rw [hm]; exact Dl.or64 hul hshl
      have HW2 : Hid (Dl.Wd (us.set j m) (ws.set k true)) := hw2
      have HRow : Hid (RowAt n64 53 w q us) := hrow
      have HU : Hid (us[j]? = some u) := (by rw [hu]; exact List.getElem?_eq_getElem hj : us[j]? = some u)
      have hjl : (j : Int) < (us.length : Int) := by omega
      have hj16 : j ≤ 16384 := by omega
      clear hr hi hg hrow hwd hfp hhf hw2 hm hsh hu hjd
      go_enter Try.func14, Try.ntmps14
      go_wp2_with fail
      refine (isplace_is g q ws.length us.length _ _ HG.out true HP.out).mono ?_
      rintro e w1 ⟨rfl, hw⟩; have hw' := hw.symm; clear hw; subst hw'
      go_wp2_with fail
      refine (has_is _ fp ws _ _ HM.out h1 h2 false HH.out).mono ?_
      rintro e w2 ⟨rfl, hx⟩
      have HX : Hid (Ex w w2) := hx
      have hgl : g < w.heap.size := (Array.getElem?_eq_some_iff.1 HG.out).1
      have HG2 : Hid (MB w2 g q ws.length us.length) := HG.out.keep (hx.block g hgl)
      have HR2 : Hid (RowAt n64 53 w2 q us) := HRow.out.below hx
      have hql : q < w.heap.size := HRow.out.lt
      clear hx
      go_wp2_with fail
      obtain ⟨w0, hw0⟩ : ∃ w0, w0 = w2.drew := ⟨_, rfl⟩
      have HG0 : Hid (MB w0 g q ws.length us.length) := (by rw [hw0]; exact HG2.out : MB w0 g q ws.length us.length)
      have HR0 : Hid (RowAt n64 53 w0 q us) := (by rw [hw0]; exact HR2.out : RowAt n64 53 w0 q us)
      have c1 := HG0.out.all.2
      have c2 : w0.cell? ⟨q, j, none⟩ = some (.int .u64 (u : Int)) := by
        have h1 := HR0.out.cell hj
        have h2 := HU.out
        rw [List.getElem?_eq_getElem hj] at h2
        simp only [Option.some.injEq] at h2
        rw [h2] at h1
        exact h1
      have hfz : w2.frozen? ⟨q, j, none⟩ = false := HR2.out.frozen j
      have HW0 : Hid (w0 = w2.drew) := hw0
      clear hw0
      have hre : ∀ w : World, (fun w w' : World => w' = w) w w := fun _ => rfl
      refine Rg.wp_rows_tail (List.take 12 _) (List.drop 12 _) (List.take_append_drop 12 _).symm [.inl (Value.pointer (some ⟨g, 0, none⟩)), .inl (Value.pointer (some ⟨g, 0, none⟩)), .inl (Value.pointer (some ⟨g, 1, none⟩)), .inl (Value.slice (some ⟨q, 0, none⟩) us.length us.length), .inl (Value.int .i64 (k : Int)), .inl (Value.int .i64 (j : Int)), .inl (Value.pointer (some ⟨q, j, none⟩)), .inl (Value.int .u64 (u : Int)), .inl (Value.int .i64 (k : Int)), .inl (Value.int .u64 (sh : Int)), .inl (Value.int .u64 (m : Int)), .inl (Value.pointer (some ⟨q, j, none⟩))] (fun wx => wx = w0) (fun w w' => w' = w) 26 (by kernel_rfl) rfl (by kernel_rfl) (by kernel_rfl) (by kernel_rfl) (by decide) (by kernel_rfl) ?st hre (by exact HW0.out.symm) ?goods ?fin
      case st => exact trivial
      case goods =>
        refine Rg.goods_cons (Rg.good_move hre rfl rfl rfl) ?_
        refine Rg.goods_cons (Rg.good_nil hre rfl rfl rfl) ?_
        refine Rg.goods_cons (Rg.good_field hre rfl rfl rfl (fun wx hC => by subst hC; go_simp)) ?_
        refine Rg.goods_cons (Rg.good_load hre rfl rfl rfl (fun wx hC => by subst hC; go_simp)) ?_
        refine Rg.goods_cons (Rg.good_move hre rfl rfl rfl) ?_
        refine Rg.goods_cons (Rg.good_bin hre rfl rfl rfl rfl (fun _ => rfl) (fun w => by go_simp; rw [IntKind.wrap_i64]; omega)) ?_
        refine Rg.goods_cons (Rg.good_index hre rfl rfl rfl rfl (fun wx hC => by subst hC; go_simp)) ?_
        refine Rg.goods_cons (Rg.good_load hre rfl rfl rfl (fun wx hC => by subst hC; go_simp)) ?_
        refine Rg.goods_cons (Rg.good_move hre rfl rfl rfl) ?_
        refine Rg.goods_cons (Rg.good_call1 Try.func29 (by kernel_rfl) rfl rfl rfl (by rintro u wx hC rfl; exact (bitof_is k wx hkb sh HSh.out).mono fun e w' ⟨he, hw⟩ => ⟨_, he, rfl, hw, hw.trans hC⟩)) ?_
        refine Rg.goods_cons (Rg.good_bin hre rfl rfl rfl rfl (fun _ => rfl) (fun w => by go_simp)) ?_
        refine Rg.goods_cons (Rg.good_index hre rfl rfl rfl rfl (fun wx hC => by subst hC; go_simp)) ?_
        exact Rg.goods_nil
      case fin =>
        intro wx hx
        rw [hx, HW0.out]
        have hcu : w2.cell? ⟨q, j, none⟩ = some (.int .u64 (u : Int)) := by rw [HW0.out] at c2; exact c2
        clear c1 c2 hx
        simp only [Rg.later, List.take_succ_cons, List.take_zero, List.drop_succ_cons, List.drop_zero, Act.put, List.setIfInBounds_toArray, List.set_cons_succ, List.set_cons_zero]
        go_wp2
        go_ret
        have hb : (w2.setCell ⟨q, j, none⟩ (.int .u64 (m : Int))).heap[g]? = w2.heap[g]? := Below.heap_setCell _ _ _ _ hne
        refine ⟨rfl, fp, ⟨g, q, us.set j m, rfl, ?_, HR2.out.set (k := j) m rfl, hne, by rw [List.length_set]; exact hl, HW2.out, HFp.out⟩, ?_, fun k hk => .inl hk⟩
        · rw [List.length_set, List.length_set]
          exact HG2.out.keep hb
        · refine ⟨HX.out.os, HX.out.tape, HX.out.output, ?_, fun c hc hn => ?_⟩
          · have := HX.out.size
            simp [World.setCell] at this ⊢
            exact this
          · have hcq : c ≠ q := fun hh => hn (by rw [HFp.out]; exact .inr hh)
            have : (w2.setCell ⟨q, j, none⟩ (.int .u64 (m : Int))).heap[c]? = w2.heap[c]? := Below.heap_setCell _ _ _ _ hcq
            exact this.trans (HX.out.block c hc)
  · have HP : Hid (decide (0 ≤ i ∧ i < (ws.length : Int)) = false) := decide_eq_false hi
    have hrf : r = false := by
      rw [← hr, Dl.setB, Bool.and_assoc]
      by_cases h0 : 0 ≤ i
      · rw [decide_eq_false (show ¬ i < (ws.length : Int) by omega)]; simp
      · rw [decide_eq_false h0]; simp
    subst hrf
    rw [if_neg (by simp)] at hs
    subst hs
    clear hr hi hg hrow hwd hfp
    go_enter Try.func14, Try.ntmps14
    go_wp2_with fail
    refine (isplace_is g q ws.length us.length i _ HG.out false HP.out).mono ?_
    rintro e w1 ⟨rfl, hw⟩; have hw' := hw.symm; clear hw; subst hw'
    go_wp2_with fail
    go_ret
    exact ⟨rfl, fp, HM.out, Touch.refl _ _, fun k hk => .inl hk⟩
set_option maxRecDepth 100000 in
theorem rows_is (v : Value) (fp : Nat → Prop) (ws : List Bool) (w : World) (h : Mk w v fp ws) (n : Nat) (hn : ws.length = n) :
    Calls Try.prog 11 #[v] w fun e w' => e = .returned (.int .i64 (n : Int)) ∧ Ex w w' := by
  obtain ⟨g, q, us, rfl, hg, hrow, hne, hl, hwd, hfp⟩ := h
  obtain ⟨c0, c1⟩ := hg.all
  subst hn
  clear hg hrow hwd hfp
  go_enter Try.func11, Try.ntmps11
  go_wp2
  go_ret
  exact ⟨rfl, Ex.refl _⟩
set_option maxRecDepth 100000 in
set_option maxHeartbeats 1000000 in
theorem count_q (v : Value) (fp : Nat → Prop) (ws : List Bool) (w : World) (h : Mk w v fp ws) (n : Nat) (hn : Dl.count ws = n) :
    Calls Try.prog 22 #[v] w fun e w' => e = .returned (.int .i64 (n : Int)) ∧ w' = w := by
  obtain ⟨g, q, us, rfl, hg, hrow, hne, hl, hwd, hfp⟩ := h
  obtain ⟨c0, c1⟩ := hg.all
  have HR : Hid (RowAt n64 53 w q us) := hrow
  have HWd : Hid (Dl.Wd us ws) := hwd
  have HN : Hid ((us.map Lib.onesCount).sum = n) := (by rw [Dl.wd_count us ws hwd]; exact hn : (us.map Lib.onesCount).sum = n)
  have hul : us.length ≤ 16384 := by rw [hwd.1]; omega
  have h0 : Hid (0 = ((us.take 0).map Lib.onesCount).sum) := rfl
  clear hrow hg hn hwd hfp
  go_enter Try.func22, Try.ntmps22
  go_wp2_with fail
  go_loop [3, 11] (fun c i => ∃ k m : Nat, k ≤ us.length ∧ m ≤ 64 * k ∧ i = .int .i64 (k : Int) ∧ c = .int .i64 (m : Int) ∧ Hid (m = ((us.take k).map Lib.onesCount).sum)) (fun _ i => us.length - (intOf i).toNat)
  case atStart => exact ⟨0, 0, by omega, by omega, rfl, rfl, h0⟩
  case round =>
    obtain ⟨k, m, hk, hmk, rfl, rfl, HC⟩ := hrel
    clear h0
    by_cases hlt : k < us.length
    · have tk : decide ((k : Int) < (us.length : Int)) = true := by simp; omega
      have hki : (k : Int) < (us.length : Int) := by omega
      obtain ⟨u, hu⟩ : ∃ u, u = us[k] := ⟨_, rfl⟩
      have hck := HR.out.cell hlt
      rw [← hu] at hck
      have hck' : w.cell? ⟨q, k, none⟩ = some (.int .u64 (u : Int)) := hck
      have hu64 : u < 18446744073709551616 := by rw [hu]; exact HWd.out.2.1 _ (List.getElem_mem hlt)
      obtain ⟨o, hon⟩ : ∃ o, Lib.onesCount u = o := ⟨_, rfl⟩
      have ho64 : o ≤ 64 := by rw [← hon]; exact (Pc.y6_is hu64).2.2.2.2.2.2.2
      have HO : Hid (Lib.onesCount u = o) := hon
      have HC2 : Hid (m + o = ((us.take (k + 1)).map Lib.onesCount).sum) := (by rw [List.take_succ_eq_append_getElem hlt, List.map_append, List.sum_append, ← hu, ← HC.out]; simp [hon] : m + o = ((us.take (k + 1)).map Lib.onesCount).sum)
      clear hck hu hon
      go_wp2_with fail
      refine (ones_is u _ hu64 o HO.out).mono ?_
      rintro e w1 ⟨rfl, hw⟩; have hw' := hw.symm; clear hw; subst hw'
      go_wp2_with fail
      go_round
      case rel => exact ⟨k + 1, m + o, by omega, by omega, by go_num, by go_num, HC2⟩
      case measure => simp [intOf]; omega
    · have tk : decide ((k : Int) < (us.length : Int)) = false := by simp; omega
      have hm : m = n := by
        have := HC.out
        rw [List.take_of_length_le (by omega), HN.out] at this
        exact this
      subst hm
      go_wp2_with fail
      go_ret
      exact ⟨rfl, rfl⟩
theorem count_is (v : Value) (fp : Nat → Prop) (ws : List Bool) (w : World) (h : Mk w v fp ws) (n : Nat) (hn : Dl.count ws = n) :
    Calls Try.prog 22 #[v] w fun e w' => e = .returned (.int .i64 (n : Int)) ∧ Ex w w' :=
  (count_q v fp ws w h n hn).mono fun e w' ⟨he, hw⟩ => ⟨he, by rw [hw]; exact Ex.refl w⟩
end Go.Proofs.Ytkhbkifofkjjnaa
