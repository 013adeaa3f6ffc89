/-
  Package block: All, over the program.
-/
import Derived.Test.YthibeoohhcmejaaOpened
import Derived.Test.YthibeoohhcmejaaTexts
namespace Go.Proofs.Ythibeoohhcmejaa
open Go.RowKit
set_option linter.unusedVariables false

set_option maxRecDepth 100000 in
set_option maxHeartbeats 1000000 in
theorem alls_is (a : Option Addr) (len cap : Nat) (l : List UInt8) (w : World) (hlen : len = l.length) (hB : Byt w a cap l) (hbl : l.length ≤ 5000000) (r : List (List UInt8)) (k0 e0 : Nat) (hr : K.all l = (r, k0, e0)) :
    Calls Try.prog 11 #[.slice a len cap] w fun e w' => ∃ v, e = .returned (.tuple #[v, .int .i64 k0, .int .i64 e0]) ∧ IsRdB r v w' ∧ Ex w w' := by
  subst hlen
  obtain ⟨base, hbase⟩ : ∃ base, base = w.heap.size := ⟨_, rfl⟩
  have HBa : Hid (base = w.heap.size) := hbase
  have HB : Hid (Byt w a cap l) := hB
  have HR : Hid (K.all l = (r, k0, e0)) := hr
  have hcl := hB.1
  have hcm := hB.2.1
  unfold maxLen at hcm
  have hO0 : Hid (OwnB w base (.slice none 0 0) []) := OwnB.nil w base
  have hB0 : Hid (Below base w w) := Below.refl _ _
  clear hB hr hbase
  go_enter Try.func11, Try.ntmps11
  go_wp2_with fail
  go_loopw [5, 6] (fun v i wr => ∃ (j : Nat) (L R : List (List UInt8)) (kk : Nat), j ≤ l.length ∧ i = .int .i64 j ∧ L.length ≤ j ∧ Hid (K.all (l.drop j) = (R, kk, e0)) ∧ Hid (L ++ R = r) ∧ Hid (j + kk = k0) ∧ Hid (OwnB wr base v L) ∧ Hid (Below base w wr)) (fun _ i _ => l.length - (intOf i).toNat)
  case atStart => exact ⟨0, [], r, k0, by omega, rfl, by simp, HR, (rfl : [] ++ r = r), (Nat.zero_add k0 : 0 + k0 = k0), hO0, hB0⟩
  case round =>
    obtain ⟨j, L, R, kk, hj, rfl, hLj, HA, HLR, HK, HO, HBl⟩ := hrel
    clear hO0 hB0 HR
    have hEx : Ex w wr := by have := HBl.out; rw [HBa.out] at this; exact this
    have hsz : base ≤ wr.heap.size := by rw [HBa.out]; exact hEx.size
    have HEx : Hid (Ex w wr) := hEx
    clear hEx
    by_cases hlt : j < l.length
    · have hd : l.drop j ≠ [] := fun h => by have := congrArg List.length h; simp at this; omega
      obtain ⟨⟨x, k, e1⟩, ho⟩ : ∃ z, K.opn (l.drop j) = z := ⟨_, rfl⟩
      have herr := K.opn_err_le (l.drop j)
      rw [ho] at herr
      simp only at herr
      have HOp : Hid (K.opn (l.drop j) = (x, k, e1)) := ho
      have tj : decide ((j : Int) < (l.length : Int)) = true := by simp; omega
      by_cases he : e1 = 0
      · subst he
        have hst := K.opn_step (b := l.drop j) (by rw [ho])
        rw [ho] at hst
        simp only [List.length_drop] at hst
        have hall := K.all_ok hd (by rw [ho])
        rw [ho] at hall
        simp only [List.drop_drop] at hall
        rw [HA.out] at hall
        simp only [Prod.mk.injEq] at hall
        obtain ⟨⟨R', kk', e'⟩, hA'⟩ : ∃ z, K.all (l.drop (j + k)) = z := ⟨_, rfl⟩
        rw [hA'] at hall
        simp only at hall
        obtain ⟨hR, hkk, he'⟩ := hall
        subst he'
        have HA' : Hid (K.all (l.drop (j + k)) = (R', kk', e0)) := hA'
        have HLR' : Hid ((L ++ [x]) ++ R' = r) := (by rw [← HLR.out, hR]; simp : (L ++ [x]) ++ R' = r)
        have HK' : Hid (j + k + kk' = k0) := (by rw [← HK.out, hkk]; omega : j + k + kk' = k0)
        have hLn : (L ++ [x]).length ≤ j + k := by simp; omega
        clear herr ho hd hA' hR hkk HA HLR HK
        go_wp2_with fail
        refine (open_in a cap l j _ (HB.out.below HEx.out) (by omega) hj x k 0 HOp.out).mono ?_
        rintro e w1 ⟨v1, rfl, ho1, hx1⟩
        rw [if_pos rfl]
        obtain ⟨p1, c1, hv1, hb1⟩ := ho1.byt
        subst hv1
        have HE1 : Hid (Elem w1 (p1, x.length, c1) x) := ⟨rfl, hb1⟩
        have hOw := HO.out
        have hnew : ∀ q, (sv (p1, x.length, c1)).ownBlock = some q → u5.ownBlock ≠ some q := fun q hq hh => by
          have h1 := (World.ownsRow.lt ho1 q hq).1
          have h2 := (hOw.lt q hh).2
          omega
        obtain ⟨vs, hr1, he1, ha1⟩ := hOw.later hx1
        have hvl : vs.length ≤ j := by rw [he1.1]; exact hLj
        have hs1 : base ≤ w1.heap.size := Nat.le_trans hsz hx1.size
        have hbl1 : Below base w w1 := HBl.out.trans (Below.mono hx1 hsz)
        clear ho1 hb1 hOw
        go_wp2_with (at_builtin; refine wpList_append_rd_at (e := 22) (enc := sv) rfl (.tmp 26) (.tmp 28) 28 rfl (none, 0, 0) 24 Try.underlying28 Try.info22 rfl (fun _ => rfl) base _ vs rfl (hr1.alloc _) _ _ _ [(p1, x.length, c1)] rfl rfl (Rd.laid w1 22 [(p1, x.length, c1)] (by simp)) (by simp [maxLen]; omega) (by simp; omega) (by simp; omega) ?_; intro v9 w9 ho9 hg9 hat9)
        have hxa : Ex w1 (w1.alloc (.cells ([(p1, x.length, c1)].map sv).toArray 22)) := (Below.refl _ _).alloc (Nat.le_refl _) _
        have hp := push_texts (he1.below hxa) ha1 (HE1.out.below hxa) (fun _ => hnew) hg9 hat9
        have HO9 : Hid (OwnB w9 base v9 (L ++ [x])) := (⟨_, ho9, hp.1, hp.2⟩ : OwnB w9 base v9 (L ++ [x]))
        have HB9 : Hid (Below base w w9) := step_belowR (Below.alloc hbl1 hs1 _) (by simp; omega) (hr1.alloc _) hg9
        clear hp ho9 hg9 hat9 hr1 he1 ha1 hnew hbl1
        go_wp2
        go_roundw
        case rel => exact ⟨j + k, L ++ [x], R', kk', by omega, rfl, hLn, HA', HLR', HK', HO9, HB9⟩
        case measure => simp [intOf]; omega
      · have hall := K.all_bad hd (by rw [ho]; exact he)
        rw [HA.out, ho] at hall
        simp only [Prod.mk.injEq] at hall
        obtain ⟨rfl, rfl, rfl⟩ := hall
        have HLr : Hid (L = r) := (by rw [← HLR.out]; simp : L = r)
        have HKj : Hid (j = k0) := (by rw [← HK.out]; simp : j = k0)
        have tne : ((e0 : Int) != 0) = true := by simp; omega
        have hel : e0 ≤ 14 := by omega
        clear herr ho hd HA HLR HK
        go_wp2_with fail
        refine (open_in a cap l j _ (HB.out.below HEx.out) (by omega) hj x k e0 HOp.out).mono ?_
        rintro e w1 ⟨v1, rfl, ho1, hx1⟩
        rw [if_neg he]
        have HX1 : Hid (Ex w w1) := HEx.out.trans hx1
        obtain ⟨ao, co, hvo, hRo⟩ := HO.out.isRdB
        subst hvo
        have HRo : Hid (RdB w1 ao co L) := hRo.below hx1
        clear ho1 hx1 hRo HO
        go_wp2
        go_ret3
        have hLr := HLr.out
        have hKj := HKj.out
        subst hLr
        subst hKj
        exact ⟨_, rfl, ⟨ao, co, rfl, HRo.out⟩, HX1.out⟩
    · have hje : l.drop j = [] := List.drop_eq_nil_of_le (by omega)
      have hA := HA.out
      rw [hje, K.all_nil] at hA
      simp only [Prod.mk.injEq] at hA
      obtain ⟨rfl, rfl, rfl⟩ := hA
      have HLr : Hid (L = r) := (by rw [← HLR.out]; simp : L = r)
      have HKj : Hid (j = k0) := (by rw [← HK.out]; simp : j = k0)
      obtain ⟨ao, co, hvo, hRo⟩ := HO.out.isRdB
      subst hvo
      have HRo : Hid (RdB wr ao co L) := hRo
      clear hRo HO HA HLR HK hje
      go_wp2
      go_ret3
      have hLr := HLr.out
      have hKj := HKj.out
      subst hLr
      subst hKj
      exact ⟨_, rfl, ⟨ao, co, rfl, HRo.out⟩, HEx.out⟩
end Go.Proofs.Ythibeoohhcmejaa
