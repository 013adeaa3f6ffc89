/-
  Package bloom's Encode, over the program.
-/
import Derived.Test.YtadcbefgleiijaaSizes
import Derived.Test.YtadcbefgleiijaaRenc
namespace Go.Proofs.Ytadcbefgleiijaa
open Go.RowKit
set_option linter.unusedVariables false
set_option linter.unusedSimpArgs false
set_option maxRecDepth 100000 in
set_option maxHeartbeats 4000000 in
theorem enc_is (k : Int) (a : Option Addr) (n cap : Nat) (B : List UInt8) (w : World) (hn : n = B.length) (hB : Byt w a cap B) (hbl : B.length ≤ 281474976710656) (hk1 : -9223372036854775808 ≤ k) (hk2 : k ≤ 9223372036854775807) (r : List UInt8) (e0 : Nat) (hr : Fl.encE k B = (r, e0)) :
    Calls Try.prog 11 #[fv k (.slice a n cap)] w fun e w' => ∃ v, e = .returned (.tuple #[v, .int .i64 e0]) ∧ Own w' w.heap.size v r ∧ Ex w w' := by
  subst hn
  have HB : Hid (Byt w a cap B) := hB
  have hcl := hB.1
  have hcm := hB.2.1
  unfold maxLen at hcm
  have hxa : Ex w (w.alloc (fb k (.slice a B.length cap) 25)) := (Below.refl _ _).alloc (Nat.le_refl _) _
  have HF : Hid (FAt (w.alloc (fb k (.slice a B.length cap) 25)) w.heap.size k (.slice a B.length cap) 25) := FAt.new w k _ 25
  have HXa : Hid (Ex w (w.alloc (fb k (.slice a B.length cap) 25))) := hxa
  clear hB hxa
  unfold Fl.encE at hr
  cases hR : Fl.rightB k B.length with
  | false =>
    rw [hR, if_neg (by simp)] at hr
    simp only [Prod.mk.injEq] at hr
    obtain ⟨rfl, rfl⟩ := hr
    have HR : Hid (Fl.rightB k B.length = false) := hR
    clear hR
    unfold fv
    go_enter Try.func11, Try.ntmps11
    go_wp2_with fail
    refine (right_is k a B.length cap _ hbl hk1 hk2 false HR.out).mono ?_
    rintro e w1 ⟨rfl, hx1⟩
    have HX1 : Hid (Ex w w1) := HXa.out.trans hx1
    clear hx1
    go_wp2_with fail
    go_ret2
    exact ⟨_, rfl, ⟨by simp [cs], .inl ⟨rfl, rfl⟩⟩, HX1.out⟩
  | true =>
    rw [hR, if_pos rfl] at hr
    simp only [Prod.mk.injEq] at hr
    obtain ⟨rfl, rfl⟩ := hr
    have HR : Hid (Fl.rightB k B.length = true) := hR
    obtain ⟨m, hmW, hkm, hlm⟩ := Fl.right_iff.1 hR
    have hmb := hmW.bounds
    subst hkm
    rw [Int.toNat_natCast]
    have hm1 : 64 ≤ m := hmb.1
    have hm2 : m ≤ 65536 := hmb.2.1
    have hbl2 : B.length ≤ 8192 := by omega
    have hdl := M.digs_len m
    clear hR hmb hmW hlm hk1 hk2
    unfold fv
    go_enter Try.func11, Try.ntmps11
    go_wp2_with fail
    refine (right_is m _ B.length cap _ hbl (by omega) (by omega) true HR.out).mono ?_
    rintro e w1 ⟨rfl, hx1⟩
    have HX1 : Hid (Ex w w1) := HXa.out.trans hx1
    have HF1 : Hid (FAt w1 w.heap.size m (.slice a B.length cap) 25) := HF.out.below hx1
    have HB1 : Hid (Byt w1 a cap B) := HB.out.below HX1.out
    clear hx1 HF
    go_wp2_with fail
    have hre := Ex.refl
    refine Rg.wp_rows_tail (List.take 6 _) (List.drop 6 _) (List.take_append_drop 6 _).symm [.inl (Value.pointer (some ⟨w.heap.size, 0, none⟩)), .inl (Value.int .i64 m), .inl (Value.int .u64 m), .inr (fun v wx => Own wx w.heap.size v (M.digs m)), .inl (Value.pointer (some ⟨w.heap.size, 1, none⟩)), .inl (Value.slice a B.length cap)] (Ex w1) Ex 14 (by kernel_rfl) rfl (by kernel_rfl) (by kernel_rfl) (by kernel_rfl) (by decide) (by kernel_rfl) ?st hre (Ex.drew _) ?goods ?fin
    case st => exact ⟨fun v w w' h hx => h.later hx, trivial⟩
    case goods =>
      refine Rg.goods_cons (Rg.good_field hre rfl rfl rfl (fun wx hC => by go_simp)) ?_
      refine Rg.goods_cons (Rg.good_load hre rfl rfl rfl (fun wx hC => by have hz := (HF1.out.below hC).all.1; go_simp)) ?_
      refine Rg.goods_cons (Rg.good_conv hre rfl rfl (by rintro u wx _ rfl; go_simp; exact I.wraps64 _ (by omega) (by omega))) ?_
      refine Rg.goods_cons (Rg.good_call2 Try.func29 (by kernel_rfl) rfl rfl rfl (by rintro u u2 wx hC rfl rfl; exact put_row9 (put_is none 0 0 [] (M.digs m) _ m wx rfl rfl (Byt.nil _) rfl (by omega) (by simp)) HX1.out.size hC)) ?_
      refine Rg.goods_cons (Rg.good_field hre rfl rfl rfl (fun wx hC => by go_simp)) ?_
      refine Rg.goods_cons (Rg.good_load hre rfl rfl rfl (fun wx hC => by have hz := (HF1.out.below hC).all.2; go_simp)) ?_
      exact Rg.goods_nil
    case fin =>
      intro wx hx
      simp only [Rg.later, List.take_succ_cons, List.take_zero, List.drop_succ_cons, List.drop_zero, Act.put, List.setIfInBounds_toArray, List.set_cons_succ, List.set_cons_zero]
      intro v10 h10
      refine wpList_append_byt rfl (.tmp 10) (.tmp 12) rfl w.heap.size _ (M.digs m) rfl h10 a _ cap B rfl rfl (HB1.out.below hx) (by omega) (HX1.out.trans hx).size ?_
      intro v' w3 ho3 hg3
      have HX3 : Hid (Ex w w3) := step_below0 (HX1.out.trans hx) (HX1.out.trans hx).size h10 hg3
      have HO3 : Hid (Own w3 w.heap.size v' (M.digs m ++ B)) := ho3
      clear ho3 hg3 h10 hx
      go_wp2_with fail
      go_ret2
      exact ⟨_, rfl, HO3.out, HX3.out⟩
end Go.Proofs.Ytadcbefgleiijaa
