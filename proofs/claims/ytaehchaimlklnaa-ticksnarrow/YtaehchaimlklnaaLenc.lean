/-
  Of the landed ticks: Encode.
-/
import Derived.Test.YtaehchaimlklnaaZstep
import Derived.Test.YtaehchaimlklnaaRvarint
import Derived.Test.YtaehchaimlklnaaRte
import Derived.Test.YtaehchaimlklnaaLright
import Derived.Test.YtaehchaimlklnaaFace
namespace Go.Proofs.Ytaehchaimlklnaa
open Go.RowKit
set_option linter.unusedVariables false
set_option linter.unusedSimpArgs false
set_option maxHeartbeats 4000000 in
set_option maxRecDepth 100000 in
theorem lenc_is (r m : Int) (a : Option Addr) (n cap : Nat) (A : List Int) (w : World) (hn : n = A.length) (hB : Rd z64 w a cap A) (hok : ∀ x ∈ A, D.ok x) (hr1 : -9223372036854775808 ≤ r) (hr2 : r ≤ 9223372036854775807) (hm1 : -9223372036854775808 ≤ m) (hm2 : m ≤ 9223372036854775807) (R : List UInt8) (e0 : Nat) (hr : Tk.encE ⟨r, m, A⟩ = (R, e0)) :
    Calls Try.prog 14 #[xv r m (.slice a n cap)] w fun e w' => ∃ v, e = .returned (.tuple #[v, .int .i64 e0]) ∧ IsByt R v w' ∧ Ex w w' := by
  subst hn
  have hcl := hB.1
  have hcm := hB.2.1
  unfold maxLen at hcm
  have HB : Hid (Rd z64 w a cap A) := hB
  have hxa : Ex w (w.alloc (xb r m (.slice a A.length cap) 24)) := (Below.refl _ _).alloc (Nat.le_refl _) _
  have hF := XAt.new w r m (.slice a A.length cap) 24
  obtain ⟨wa, hwa⟩ : ∃ wa, w.alloc (Obj.cells #[Value.int IntKind.i64 r, Value.int IntKind.i64 m, Value.slice a A.length cap] 24) = wa := ⟨_, rfl⟩
  have HXa : Hid (Ex w wa) := (by rw [← hwa]; exact hxa : Ex w wa)
  have HFa : Hid (XAt wa w.heap.size r m (.slice a A.length cap) 24) := (by rw [← hwa]; exact hF : XAt wa w.heap.size r m (.slice a A.length cap) 24)
  obtain ⟨f0, f1, f2⟩ := HFa.out.all
  clear hB hxa hF
  unfold Tk.encE at hr
  cases hR : Tk.right ⟨r, m, A⟩ with
  | false =>
    rw [hR, if_neg (by simp)] at hr
    simp only [Prod.mk.injEq] at hr
    obtain ⟨rfl, rfl⟩ := hr
    have HR : Hid (Tk.right ⟨r, m, A⟩ = false) := hR
    clear hR
    unfold xv
    go_enter Try.func14, Try.ntmps14
    go_wp2_with fail
    refine (lright_is r m _ A.length cap A _ rfl (HB.out.below HXa.out) hr1 hr2 false HR.out).mono ?_
    rintro e w2 ⟨rfl, hx2⟩
    go_wp2_with fail
    go_ret2
    exact ⟨_, rfl, ⟨none, 0, rfl, Byt.nil _⟩, HXa.out.trans hx2⟩
  | true =>
    rw [hR, if_pos rfl] at hr
    simp only [Prod.mk.injEq] at hr
    obtain ⟨hr, rfl⟩ := hr
    unfold Tk.enc at hr
    have hrows := Tk.right_rows hR
    simp only at hrows hr
    have hAl : A.length ≤ 262144 := by omega
    obtain ⟨K, hK⟩ : ∃ K : Nat, r = K := Int.eq_ofNat_of_zero_le (by omega)
    have hK2 : K ≤ 1048576 := by omega
    obtain ⟨G, hG, hg⟩ := zig_nat hm1 hm2
    subst hK
    rw [hG] at hr
    simp only [Int.toNat_natCast] at hr
    have HR : Hid (Tk.right ⟨K, m, A⟩ = true) := hR
    have HG : Hid (M.zig m = (G : Int)) := hG
    have Hr : Hid (M.digs K ++ M.digs G ++ D.enc A = R) := hr
    have hl0 := M.digs_len K
    have hl1 := M.digs_len G
    have hl2 := D.enc_len A
    clear hR hr hrows hG
    unfold xv
    go_enter Try.func14, Try.ntmps14
    go_wp2_with fail
    refine (lright_is K m _ A.length cap A _ rfl (HB.out.below HXa.out) hr1 hr2 true HR.out).mono ?_
    rintro e w2 ⟨rfl, hx2⟩
    have HX2 : Hid (Ex w w2) := HXa.out.trans hx2
    have HF : Hid (XAt w2 w.heap.size K m (.slice a A.length cap) 24) := HFa.out.below hx2
    clear hx2 f0 f1 f2
    obtain ⟨f0, f1, f2⟩ := HF.out.all
    go_wp2_with fail
    refine (put_is none 0 0 [] (M.digs K) _ K _ (by first | rfl | exact I.wraps64 _ (by omega) (by omega)) rfl (Byt.nil _) rfl (by omega) (by simp)).mono ?_
    rintro e w3 ⟨v3, rfl, ho3, hx3⟩
    have HX3 : Hid (Ex w w3) := HX2.out.trans hx3
    have HF3 : Hid (XAt w3 w.heap.size K m (.slice a A.length cap) 24) := HF.out.below hx3
    obtain ⟨p3, c3, hv3, hb3⟩ := ho3.isByt
    subst hv3
    have HB3 : Hid (Byt w3 p3 c3 (M.digs K)) := hb3
    clear hx3 f0 f1 f2 ho3 hb3
    obtain ⟨f0, f1, f2⟩ := HF3.out.all
    go_wp2_with fail
    refine (zig_is _ _ _ (by omega) (by omega) HG.out).mono ?_
    rintro e wq ⟨rfl, hw⟩
    have hw' := hw.symm; clear hw; subst hw'
    go_wp2_with fail
    refine (put_is p3 _ c3 (M.digs K) _ _ G _ rfl rfl HB3.out rfl (by omega) (by omega)).mono ?_
    rintro e w4 ⟨v4, rfl, ho4, hx4⟩
    have HX4 : Hid (Ex w w4) := HX3.out.trans hx4
    have HF4 : Hid (XAt w4 w.heap.size K m (.slice a A.length cap) 24) := HF3.out.below hx4
    have HO4 : Hid (Own w4 w.heap.size v4 (M.digs K ++ M.digs G)) := ho4.mono HX3.out.size
    clear ho4 hx4 f0 f1 f2
    obtain ⟨f0, f1, f2⟩ := HF4.out.all
    go_wp2_with fail
    refine (enc_is a A.length cap A _ rfl (HB.out.below HX4.out) hok (by omega) (D.enc A) rfl).mono ?_
    rintro e w5 ⟨v5, rfl, ⟨p5, c5, rfl, hb5⟩, hx5⟩
    have HO5 : Hid (Own w5 w.heap.size v4 (M.digs K ++ M.digs G)) := HO4.out.later hx5
    have HX5 : Hid (Ex w w5) := HX4.out.trans hx5
    have HB5 : Hid (Byt w5 p5 c5 (D.enc A)) := hb5
    clear hb5 hx5
    go_wp2_with (at_builtin; refine wpList_append_byt rfl (.tmp 17) (.tmp 20) rfl w.heap.size _ _ rfl HO5.out p5 _ c5 (D.enc A) rfl rfl HB5.out (by simp; omega) HX5.out.size ?_; intro v6 w6 ho6 hg6; have HX6 : Hid (Ex w w6) := step_below0 HX5.out HX5.out.size HO5.out hg6; have HO6 : Hid (Own w6 w.heap.size v6 (M.digs K ++ M.digs G ++ D.enc A)) := ho6; clear hg6 ho6)
    go_ret2
    exact ⟨_, rfl, by rw [← Hr.out]; exact HO6.out.isByt, HX6.out⟩
end Go.Proofs.Ytaehchaimlklnaa
