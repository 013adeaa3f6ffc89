/-
  The walk of DelsNumbers.
-/
import Derived.Test.YtkhbkifofkjjnaaDelsReadsWalk
namespace Go.Proofs.Ytkhbkifofkjjnaa.delsNumbers
open Go.RowKit Go.Proofs.Ytkhbkifofkjjnaa
set_option linter.unusedVariables false
set_option linter.unusedSimpArgs false
set_option maxRecDepth 100000 in
set_option maxHeartbeats 8000000 in
theorem walk (w : World) : Calls Try.prog 3 #[] w fun e w' => e = .returned (.bool true) ∧ Below w.heap.size w w' := by
  go_enter Try.func3, Try.ntmps3
  go_wp2_with fail
  refine (new_bad (-1) _ (by omega) (by omega) (by omega)).mono ?_
  rintro e w1 ⟨rfl, hx1⟩
  go_wp2_with fail
  refine (new_bad 1048577 _ (by omega) (by omega) (by omega)).mono ?_
  rintro e w2 ⟨rfl, hx2⟩
  have HX2 : Hid (Ex w w2) := hx1.trans hx2
  clear hx1 hx2
  go_wp2_with fail
  refine (new_ok 0 _ (by omega)).mono ?_
  rintro e w3 ⟨vz, fpz, rfl, hmz, hfz, hx3⟩
  obtain ⟨mz, rfl⟩ := hmz.some_
  have HMz3 : Hid (Mk w3 (.pointer (some ⟨mz, 0, none⟩)) fpz []) := hmz
  have HX3 : Hid (Ex w w3) := HX2.out.trans hx3
  clear hmz hfz hx3
  go_wp2_with fail
  refine (new_ok 9 _ (by omega)).mono ?_
  rintro e w4 ⟨vm, fpm, rfl, hmm, hfm, hx4⟩
  obtain ⟨mm, rfl⟩ := hmm.some_
  obtain ⟨M9, hM9⟩ : ∃ M, M = List.replicate 9 false := ⟨_, rfl⟩
  rw [← hM9] at hmm
  have HM9 : Hid (M9 = List.replicate 9 false) := hM9
  have hs3 := HX3.out.size
  have HFm : Hid (∀ k, fpm k → w.heap.size ≤ k) := (fun k hk => by have := hfm k hk; omega : ∀ k, fpm k → w.heap.size ≤ k)
  have HMmw4 : Hid (Mk w4 (.pointer (some ⟨mm, 0, none⟩)) fpm M9) := hmm
  have HMzw4 : Hid (Mk w4 (.pointer (some ⟨mz, 0, none⟩)) fpz []) := HMz3.out.below hx4
  have HXw4 : Hid (Ex w w4) := HX3.out.trans hx4
  clear hmm hfm hx4 hM9 hs3
  go_wp2_with fail
  refine (or_bad _ _ fpm fpz M9 [] _ HMmw4.out HMzw4.out (by rw [HM9.out]; simp)).mono ?_
  rintro e w5 ⟨rfl, hx5⟩
  have HMzw5 : Hid (Mk w5 (.pointer (some ⟨mz, 0, none⟩)) fpz []) := HMzw4.out.below hx5
  have HMmw5 : Hid (Mk w5 (.pointer (some ⟨mm, 0, none⟩)) fpm M9) := HMmw4.out.below hx5
  have HXw5 : Hid (Ex w w5) := HXw4.out.trans hx5
  clear hx5
  go_wp2_with fail
  refine (or_nil _ fpm M9 _ HMmw5.out).mono ?_
  rintro e w6 ⟨rfl, hx6⟩
  have HMzw6 : Hid (Mk w6 (.pointer (some ⟨mz, 0, none⟩)) fpz []) := HMzw5.out.below hx6
  have HMmw6 : Hid (Mk w6 (.pointer (some ⟨mm, 0, none⟩)) fpm M9) := HMmw5.out.below hx6
  have HXw6 : Hid (Ex w w6) := HXw5.out.trans hx6
  clear hx6
  obtain ⟨w7, hww7⟩ : ∃ w7, w6.alloc (Obj.cells #[Value.int IntKind.u8 129, Value.int IntKind.u8 128, Value.int IntKind.u8 64] 5) = w7 := ⟨_, rfl⟩
  have hxw7 : Ex w6 w7 := by rw [← hww7]; exact (Below.refl _ _).alloc (Nat.le_refl _) _
  have HBw7 : Hid (Byt w7 (some ⟨w6.heap.size, 0, none⟩) 3 [129, 128, 64]) := (by rw [← hww7]; exact Byt.laid w6 [129, 128, 64] (by simp) : Byt w7 (some ⟨w6.heap.size, 0, none⟩) 3 [129, 128, 64])
  have HMzw7 : Hid (Mk w7 (.pointer (some ⟨mz, 0, none⟩)) fpz []) := HMzw6.out.below hxw7
  have HMmw7 : Hid (Mk w7 (.pointer (some ⟨mm, 0, none⟩)) fpm M9) := HMmw6.out.below hxw7
  have HXw7 : Hid (Ex w w7) := HXw6.out.trans hxw7
  clear hxw7
  go_wp2_with fail
  refine (mdec_bad _ 3 3 [129, 128, 64] 0 _ rfl HBw7.out (by simp) ⟨by omega, by omega⟩ [] 0 4 (by decide +kernel) (by decide)).mono ?_
  rintro e w8 ⟨rfl, hxw8⟩
  have HMzw8 : Hid (Mk w8 (.pointer (some ⟨mz, 0, none⟩)) fpz []) := HMzw7.out.below hxw8
  have HMmw8 : Hid (Mk w8 (.pointer (some ⟨mm, 0, none⟩)) fpm M9) := HMmw7.out.below hxw8
  have HXw8 : Hid (Ex w w8) := HXw7.out.trans hxw8
  clear hxw8 hww7
  obtain ⟨w9, hww9⟩ : ∃ w9, w8.alloc (Obj.cells #[Value.int IntKind.u8 3, Value.int IntKind.u8 3, Value.int IntKind.u8 10] 5) = w9 := ⟨_, rfl⟩
  have hxw9 : Ex w8 w9 := by rw [← hww9]; exact (Below.refl _ _).alloc (Nat.le_refl _) _
  have HBw9 : Hid (Byt w9 (some ⟨w8.heap.size, 0, none⟩) 3 [3, 3, 10]) := (by rw [← hww9]; exact Byt.laid w8 [3, 3, 10] (by simp) : Byt w9 (some ⟨w8.heap.size, 0, none⟩) 3 [3, 3, 10])
  have HMzw9 : Hid (Mk w9 (.pointer (some ⟨mz, 0, none⟩)) fpz []) := HMzw8.out.below hxw9
  have HMmw9 : Hid (Mk w9 (.pointer (some ⟨mm, 0, none⟩)) fpm M9) := HMmw8.out.below hxw9
  have HXw9 : Hid (Ex w w9) := HXw8.out.trans hxw9
  clear hxw9
  go_wp2_with fail
  refine (mdec_bad _ 3 3 [3, 3, 10] 0 _ rfl HBw9.out (by simp) ⟨by omega, by omega⟩ [] 0 12 (by decide +kernel) (by decide)).mono ?_
  rintro e wa ⟨rfl, hxwa⟩
  have HMzwa : Hid (Mk wa (.pointer (some ⟨mz, 0, none⟩)) fpz []) := HMzw9.out.below hxwa
  have HMmwa : Hid (Mk wa (.pointer (some ⟨mm, 0, none⟩)) fpm M9) := HMmw9.out.below hxwa
  have HXwa : Hid (Ex w wa) := HXw9.out.trans hxwa
  clear hxwa hww9
  obtain ⟨wb, hwwb⟩ : ∃ wb, wa.alloc (Obj.cells #[Value.int IntKind.u8 3] 5) = wb := ⟨_, rfl⟩
  have hxwb : Ex wa wb := by rw [← hwwb]; exact (Below.refl _ _).alloc (Nat.le_refl _) _
  have HBwb : Hid (Byt wb (some ⟨wa.heap.size, 0, none⟩) 1 [3]) := (by rw [← hwwb]; exact Byt.laid wa [3] (by simp) : Byt wb (some ⟨wa.heap.size, 0, none⟩) 1 [3])
  have HMzwb : Hid (Mk wb (.pointer (some ⟨mz, 0, none⟩)) fpz []) := HMzwa.out.below hxwb
  have HMmwb : Hid (Mk wb (.pointer (some ⟨mm, 0, none⟩)) fpm M9) := HMmwa.out.below hxwb
  have HXwb : Hid (Ex w wb) := HXwa.out.trans hxwb
  clear hxwb
  go_wp2_with fail
  refine (mdec_bad _ 1 1 [3] 0 _ rfl HBwb.out (by simp) ⟨by omega, by omega⟩ [] 0 10 (by decide +kernel) (by decide)).mono ?_
  rintro e wc ⟨rfl, hxwc⟩
  have HMzwc : Hid (Mk wc (.pointer (some ⟨mz, 0, none⟩)) fpz []) := HMzwb.out.below hxwc
  have HMmwc : Hid (Mk wc (.pointer (some ⟨mm, 0, none⟩)) fpm M9) := HMmwb.out.below hxwc
  have HXwc : Hid (Ex w wc) := HXwb.out.trans hxwc
  clear hxwc hwwb
  go_wp2_with fail
  refine (mdec_bad none 0 0 [] 1 _ rfl (Byt.nil _) (by simp) ⟨by omega, by omega⟩ [] 0 1 (by decide +kernel) (by decide)).mono ?_
  rintro e wd ⟨rfl, hxwd⟩
  have HMzwd : Hid (Mk wd (.pointer (some ⟨mz, 0, none⟩)) fpz []) := HMzwc.out.below hxwd
  have HMmwd : Hid (Mk wd (.pointer (some ⟨mm, 0, none⟩)) fpm M9) := HMmwc.out.below hxwd
  have HXwd : Hid (Ex w wd) := HXwc.out.trans hxwd
  clear hxwd
  obtain ⟨we, hwwe⟩ : ∃ we, wd.alloc (Obj.cells #[Value.int IntKind.u8 7, Value.int IntKind.u8 0, Value.int IntKind.u8 7] 5) = we := ⟨_, rfl⟩
  have hxwe : Ex wd we := by rw [← hwwe]; exact (Below.refl _ _).alloc (Nat.le_refl _) _
  have HBwe : Hid (Byt we (some ⟨wd.heap.size, 0, none⟩) 3 [7, 0, 7]) := (by rw [← hwwe]; exact Byt.laid wd [7, 0, 7] (by simp) : Byt we (some ⟨wd.heap.size, 0, none⟩) 3 [7, 0, 7])
  have HMzwe : Hid (Mk we (.pointer (some ⟨mz, 0, none⟩)) fpz []) := HMzwd.out.below hxwe
  have HMmwe : Hid (Mk we (.pointer (some ⟨mm, 0, none⟩)) fpm M9) := HMmwd.out.below hxwe
  have HXwe : Hid (Ex w we) := HXwd.out.trans hxwe
  clear hxwe
  go_wp2_with fail
  refine (mdec_ok _ 3 3 [7, 0, 7] 1 _ rfl HBwe.out (by simp) ⟨by omega, by omega⟩ [] 2 (by decide +kernel)).mono ?_
  rintro e wf ⟨vx, fpx, rfl, hmx, hfx, hxwf⟩
  obtain ⟨mx, rfl⟩ := hmx.some_
  have HMxwf : Hid (Mk wf (.pointer (some ⟨mx, 0, none⟩)) fpx []) := hmx
  have HMzwf : Hid (Mk wf (.pointer (some ⟨mz, 0, none⟩)) fpz []) := HMzwe.out.below hxwf
  have HMmwf : Hid (Mk wf (.pointer (some ⟨mm, 0, none⟩)) fpm M9) := HMmwe.out.below hxwf
  have HXwf : Hid (Ex w wf) := HXwe.out.trans hxwf
  clear hmx hfx hxwf hwwe
  go_wp2_with fail
  refine (rows_is _ fpx [] _ HMxwf.out 0 rfl).mono ?_
  rintro e wg ⟨rfl, hxwg⟩
  have HMzwg : Hid (Mk wg (.pointer (some ⟨mz, 0, none⟩)) fpz []) := HMzwf.out.below hxwg
  have HMmwg : Hid (Mk wg (.pointer (some ⟨mm, 0, none⟩)) fpm M9) := HMmwf.out.below hxwg
  have HXwg : Hid (Ex w wg) := HXwf.out.trans hxwg
  clear hxwg
  go_wp2_with fail
  refine (menc_is _ fpz [] _ HMzwg.out [0] (by decide +kernel)).mono ?_
  rintro e wh ⟨uh, rfl, ⟨ah, ch, hvh, hbh⟩, hxwh⟩
  subst hvh
  have hsh := run_str (n := 1) hbh rfl
  have hst : (str [0]) = ({ data := #[0] } : ByteArray) := rfl
  rw [hst] at hsh
  have HMzwh : Hid (Mk wh (.pointer (some ⟨mz, 0, none⟩)) fpz []) := HMzwg.out.below hxwh
  have HMmwh : Hid (Mk wh (.pointer (some ⟨mm, 0, none⟩)) fpm M9) := HMmwg.out.below hxwh
  have HXwh : Hid (Ex w wh) := HXwg.out.trans hxwh
  clear hbh hxwh
  simp only [List.length_cons, List.length_nil]
  go_wp2_with fail
  refine (has_is _ fpm M9 (-1) _ HMmwh.out (by omega) (by omega) false (Dl.has_out (.inl (by omega)))).mono ?_
  rintro e wi ⟨rfl, hxwi⟩
  have HMzwi : Hid (Mk wi (.pointer (some ⟨mz, 0, none⟩)) fpz []) := HMzwh.out.below hxwi
  have HMmwi : Hid (Mk wi (.pointer (some ⟨mm, 0, none⟩)) fpm M9) := HMmwh.out.below hxwi
  have HXwi : Hid (Ex w wi) := HXwh.out.trans hxwi
  clear hxwi hsh
  go_wp2_with fail
  refine (set_is _ fpm M9 (-1) _ HMmwi.out (by omega) (by omega) false (by rw [Dl.setB, decide_eq_false (by omega)]; rfl) M9 (by rw [Dl.setW, Dl.setB, decide_eq_false (by omega)]; rfl)).mono ?_
  rintro e wj ⟨rfl, fpj, hmj, htj, hfj⟩
  have HMmwj : Hid (Mk wj (.pointer (some ⟨mm, 0, none⟩)) fpj M9) := hmj
  have HXwj : Hid (Ex w wj) := Touch.ex HXwi.out htj HFm.out
  clear hmj htj hfj
  obtain ⟨LF, hLF⟩ : ∃ L, Dl.left M9 = L := ⟨_, rfl⟩
  have HLF : Hid (Dl.left M9 = LF) := hLF
  have HLl : Hid (LF.length = 9) := (by rw [← hLF, HM9.out]; rfl : LF.length = 9)
  clear hLF
  go_wp2_with fail
  refine (left_is _ fpj M9 _ HMmwj.out LF HLF.out).mono ?_
  rintro e wk ⟨uk, rfl, ⟨ak, ck, hvk, hbk⟩, hxwk⟩
  subst hvk
  have HMmwk : Hid (Mk wk (.pointer (some ⟨mm, 0, none⟩)) fpj M9) := HMmwj.out.below hxwk
  have HXwk : Hid (Ex w wk) := HXwj.out.trans hxwk
  clear hbk hxwk
  rw [HLl.out]
  go_wp2_with fail
  refine (rows_is _ fpj M9 _ HMmwk.out 9 (by rw [HM9.out]; rfl)).mono ?_
  rintro e wl ⟨rfl, hxwl⟩
  have HXwl : Hid (Ex w wl) := HXwk.out.trans hxwl
  clear hxwl
  go_wp2_with fail
  refine (known_any _).mono ?_
  rintro e wm ⟨rfl, hxwm⟩
  go_wp2_with fail
  go_ret
  exact ⟨rfl, HXwl.out.trans hxwm⟩
end Go.Proofs.Ytkhbkifofkjjnaa.delsNumbers
