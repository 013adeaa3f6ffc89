/-
  Package runs: what writes a run, and what writes groups (addRun, addGroups), over the program.
-/
import Derived.Test.YtkhbkifofkjjnaaSizes
import Derived.Laws.CopyOwn
namespace Go.Proofs.Ytkhbkifofkjjnaa
open Go.RowKit
set_option linter.unusedVariables false

theorem shift_step (x j : Nat) : x / 2 ^ (8 * j) / 256 = x / 2 ^ (8 * (j + 1)) := by
  rw [Nat.div_div_eq_div_mul, show 8 * (j + 1) = 8 * j + 8 by omega, Nat.pow_add]
set_option maxRecDepth 100000 in
set_option maxHeartbeats 1000000 in
theorem addRun_any (base : Nat) (v : Value) (pre pd : List UInt8) (x n D : Nat) (w : World) (hown : Own w base v pre) (hb : base ≤ w.heap.size) (hx : x < 18446744073709551616) (hn : n ≤ 2000000) (hD : D ≤ 32) (hpl : pre.length ≤ 200000000) (hpd : pre ++ M.digs (2 * n) = pd) :
    Calls Try.prog 43 #[v, .int .u64 x, .int .i64 n, .int .i64 D] w fun e w' => ∃ v', e = .returned v' ∧ Own w' base v' (pd ++ R.few D x) ∧ Below base w w' := by
  obtain ⟨i0, hi, hz0, hz1, hz2⟩ := info_parts Try.info5
  obtain ⟨N2, hN2⟩ : ∃ N2, N2 = 2 * n := ⟨_, rfl⟩
  rw [← hN2] at hpd
  have HPD : Hid (pre ++ M.digs N2 = pd) := hpd
  have hN2b : N2 ≤ 4000000 := by omega
  have HN2 : Hid (N2 = 2 * n) := hN2
  have HO : Hid (Own w base v pre) := hown
  have HB0 : Hid (base ≤ w.heap.size) := hb
  have hdl := M.digs_len N2
  have hpdl : pd.length ≤ 200000010 := by rw [← hpd]; simp; omega
  clear hN2 hown hb hpd
  go_enter Try.func43, Try.ntmps43
  go_wp2_with fail
  refine (put_is none 0 0 [] (M.digs N2) _ N2 _ (by have := HN2.out; omega) rfl (Byt.nil _) rfl (by omega) (by simp)).mono ?_
  rintro e w1 ⟨v1, rfl, ho1, hb1⟩
  obtain ⟨a1, c1, rfl, hby1⟩ := ho1.byt
  have hx1 : Ex w w1 := hb1
  have HX1 : Hid (Ex w w1) := hx1
  have HO1 : Hid (Own w1 base v pre) := HO.out.later hx1
  have HBy : Hid (Byt w1 a1 c1 (M.digs N2)) := hby1
  have hbs1 : base ≤ w1.heap.size := Nat.le_trans HB0.out hx1.size
  clear ho1 hb1 hby1 hx1
  go_wp2_with (at_builtin; refine wpList_append_byt rfl (.tmp 9) (.tmp 13) rfl base _ pre rfl HO1.out a1 _ c1 (M.digs N2) rfl rfl HBy.out ?x1 hbs1 ?_)
  case x1 => omega
  intro v2 w2 ho2 hg2
  have hbw2 : Below base w w2 := step_below0 (HX1.out.mono HB0.out) hbs1 HO1.out hg2
  have HO2 : Hid (Own w2 base v2 (pd ++ fewK x 0)) := (by rw [HPD.out] at ho2; simpa [fewK] using ho2 : Own w2 base v2 (pd ++ fewK x 0))
  have HB2 : Hid (Below base w w2) := hbw2
  clear ho2 hg2 hbw2
  go_wp2_with fail
  refine (numSize_is _ D _ rfl (by omega) _ rfl).mono ?_
  rintro e wq ⟨rfl, hw'⟩
  have hw'' := hw'.symm
  clear hw'
  subst hw''
  go_wp2
  go_loopw [0, 1, 17] (fun v i k wr => ∃ j : Nat, j ≤ (D + 7) / 8 ∧ i = .int .u64 ((x / 2 ^ (8 * j) : Nat) : Int) ∧ k = .int .i64 j ∧ Hid (Own wr base v (pd ++ fewK x j)) ∧ Hid (Below base w wr)) (fun _ _ k _ => 72 - (intOf k).toNat)
  case atStart => exact ⟨0, by omega, by simp, rfl, HO2, HB2⟩
  case round =>
    obtain ⟨j, hj, rfl, rfl, HOj, HBj⟩ := hrel
    clear HO2 HB2
    have hbs : base ≤ wr.heap.size := Nat.le_trans HB0.out HBj.out.size
    by_cases hlt : j < (D + 7) / 8
    · have hd : decide ((j : Int) < (((D + 7) / 8 : Nat) : Int)) = true := by simp; omega
      have hfl := fewK_len x j
      obtain ⟨y, hy⟩ : ∃ y, y = x / 2 ^ (8 * j) := ⟨_, rfl⟩
      have hyx : y ≤ x := by rw [hy]; exact Nat.div_le_self _ _
      have HV : Hid ((y : Int) % 256 = ((UInt8.ofNat (x / 2 ^ (8 * j))).toNat : Int)) := (by rw [← hy, UInt8.toNat_ofNat']; omega : (y : Int) % 256 = ((UInt8.ofNat (x / 2 ^ (8 * j))).toNat : Int))
      have HS : Hid (y / 256 = x / 2 ^ (8 * (j + 1))) := (by rw [hy]; exact shift_step x j : y / 256 = x / 2 ^ (8 * (j + 1)))
      rw [← hy]
      clear hy
      go_wp2_with (at_builtin; refine wpList_append_own _ rfl (.tmp 19) (.tmp 22) 29 rfl base 5 i0 (.int .u8 0) 1 1 Try.underlying29 hi hz0 hz1 hz2 rfl (by decide) _ _ _ rfl (HOj.out.alloc _) ⟨wr.heap.size, 0, none⟩ 1 1 [.int .u8 ((y : Int) % 256)] rfl rfl ?c1 ?c2 ?c3 ?c4 ?c5 ?_)
      case c1 => exact one_cell wr _
      case c2 => intro u hu; simp at hu; subst hu; rfl
      case c3 => simp [maxLen]; omega
      case c4 => simp; omega
      case c5 => simp; omega
      intro v' w3 hown' hgrow _
      have HB' : Hid (Below base w w3) := step_below HBj.out hbs HOj.out hgrow
      have HO' : Hid (Own w3 base v' (pd ++ fewK x (j + 1))) := (by
        rw [fewK_succ, ← List.append_assoc]
        exact own_push hown' (by simp [hfl]) HV.out : Own w3 base v' (pd ++ fewK x (j + 1)))
      clear hown' hgrow
      go_wp2
      go_roundw
      case rel => exact ⟨j + 1, by omega, I.int_num (by rw [← HS.out]; omega), by go_num, HO', HB'⟩
      case measure => simp [intOf]; omega
    · have hd : decide ((j : Int) < (((D + 7) / 8 : Nat) : Int)) = false := by simp; omega
      have hje : j = (D + 7) / 8 := by omega
      have HO' : Hid (Own wr base u0 (pd ++ R.few D x)) := (by have := HOj.out; rw [hje] at this; exact this : Own wr base u0 (pd ++ R.few D x))
      clear hje
      go_wp2
      go_ret
      exact ⟨_, rfl, HO'.out, HBj.out⟩
end Go.Proofs.Ytkhbkifofkjjnaa
