/-
  Encode of indexes over the program.
-/
import Derived.Test.YtaehchaimlklnaaZstep
import Derived.Test.YtaehchaimlklnaaRvarint
import Derived.Test.YtaehchaimlklnaaRtr
import Derived.Test.YtaehchaimlklnaaRenc
namespace Go.Proofs.Ytaehchaimlklnaa
open Go.RowKit
set_option linter.unusedVariables false
set_option linter.unusedSimpArgs false
/-- The bytes of an index. -/
def Tk.enc (x : Tk.Ix) : List UInt8 := M.digs x.r.toNat ++ M.digs (M.zig x.m).toNat ++ D.enc x.a
def Tk.encE (x : Tk.Ix) : List UInt8 × Nat := if Tk.right x = true then (Tk.enc x, 0) else ([], 12)
theorem zig_nat {n : Int} (h1 : -9223372036854775808 ≤ n) (h2 : n ≤ 9223372036854775807) : ∃ G : Nat, M.zig n = (G : Int) ∧ G < 18446744073709551616 := by
  have h : 0 ≤ M.zig n := by unfold M.zig; split <;> omega
  obtain ⟨G, hG⟩ := Int.eq_ofNat_of_zero_le h
  refine ⟨G, hG, ?_⟩
  have : M.zig n < 18446744073709551616 := by unfold M.zig; split <;> omega
  omega
theorem Tk.right_rows {x : Tk.Ix} (h : Tk.right x = true) : 0 ≤ x.r ∧ x.r ≤ 1048576 ∧ (x.a.length : Int) = (x.r + 3) / 4 := by
  unfold Tk.right at h
  simp only [Bool.and_eq_true, decide_eq_true_eq] at h
  exact h.1
set_option maxHeartbeats 4000000 in
set_option maxRecDepth 100000 in
theorem rte_is (r m : Int) (a : Option Addr) (n cap : Nat) (A : List Int) (w : World) (hn : n = A.length) (hB : Rd z64 w a cap A) (hok : ∀ x ∈ A, D.ok x) (hr1 : -9223372036854775808 ≤ r) (hr2 : r ≤ 9223372036854775807) (hm1 : -9223372036854775808 ≤ m) (hm2 : m ≤ 9223372036854775807) (R : List UInt8) (e0 : Nat) (hr : Tk.encE ⟨r, m, A⟩ = (R, e0)) :
    Calls Try.prog 15 #[xv r m (.slice a n cap)] w fun e w' => ∃ v, e = .returned (.tuple #[v, .int .i64 e0]) ∧ IsByt R v w' ∧ Ex w w' := by
  subst hn
  have hcl := hB.1
  have hcm := hB.2.1
  unfold maxLen at hcm
  have HB : Hid (Rd z64 w a cap A) := hB
  have hxa : Ex w (w.alloc (xb r m (.slice a A.length cap) 28)) := (Below.refl _ _).alloc (Nat.le_refl _) _
  have hF := XAt.new w r m (.slice a A.length cap) 28
  obtain ⟨wa, hwa⟩ : ∃ wa, w.alloc (Obj.cells #[Value.int IntKind.i64 r, Value.int IntKind.i64 m, Value.slice a A.length cap] 28) = wa := ⟨_, rfl⟩
  have HXa : Hid (Ex w wa) := (by rw [← hwa]; exact hxa : Ex w wa)
  have HFa : Hid (XAt wa w.heap.size r m (.slice a A.length cap) 28) := (by rw [← hwa]; exact hF : XAt wa w.heap.size r m (.slice a A.length cap) 28)
  obtain ⟨f0, f1, f2⟩ := HFa.out.all
  clear hB hxa hF
  unfold Tk.encE at hr
  cases hR : Tk.right ⟨r, m, A⟩ with
  | false =>
    rw [hR, if_neg (by simp)] at hr
    simp only [Prod.mk.injEq] at hr
    obtain ⟨rfl, rfl⟩ := hr
    have HR : Hid (Tk.right ⟨r, m, A⟩ = false) := hR
    clear hR
    unfold xv
    go_enter Try.func15, Try.ntmps15
    go_wp2_with fail
    refine (rtr_is r m _ A.length cap A _ rfl (HB.out.below HXa.out) hr1 hr2 false HR.out).mono ?_
    rintro e w2 ⟨rfl, hx2⟩
    go_wp2_with fail
    go_ret2
    exact ⟨_, rfl, ⟨none, 0, rfl, Byt.nil _⟩, HXa.out.trans hx2⟩
  | true =>
    rw [hR, if_pos rfl] at hr
    simp only [Prod.mk.injEq] at hr
    obtain ⟨hr, rfl⟩ := hr
    unfold Tk.enc at hr
    have hrows := Tk.right_rows hR
    simp only at hrows hr
    have hAl : A.length ≤ 262144 := by omega
    obtain ⟨K, hK⟩ : ∃ K : Nat, r = K := Int.eq_ofNat_of_zero_le (by omega)
    have hK2 : K ≤ 1048576 := by omega
    obtain ⟨G, hG, hg⟩ := zig_nat hm1 hm2
    subst hK
    rw [hG] at hr
    simp only [Int.toNat_natCast] at hr
    have HR : Hid (Tk.right ⟨K, m, A⟩ = true) := hR
    have HG : Hid (M.zig m = (G : Int)) := hG
    have Hr : Hid (M.digs K ++ M.digs G ++ D.enc A = R) := hr
    have hl0 := M.digs_len K
    have hl1 := M.digs_len G
    have hl2 := D.enc_len A
    clear hR hr hrows hG
    unfold xv
    go_enter Try.func15, Try.ntmps15
    go_wp2_with fail
    refine (rtr_is K m _ A.length cap A _ rfl (HB.out.below HXa.out) hr1 hr2 true HR.out).mono ?_
    rintro e w2 ⟨rfl, hx2⟩
    have HX2 : Hid (Ex w w2) := HXa.out.trans hx2
    have HF : Hid (XAt w2 w.heap.size K m (.slice a A.length cap) 28) := HFa.out.below hx2
    have HW2 : Hid (w.heap.size ≤ w2.heap.size) := HX2.out.size
    clear hx2
    go_wp2_with fail
    have hre := Ex.refl
    refine Rg.wp_rows [.inl (Value.pointer (some ⟨w.heap.size, 0, none⟩)), .inl (Value.int .i64 (K : Int)), .inl (Value.int .u64 (K : Int)), .inr (IsByt (M.digs K)), .inl (Value.pointer (some ⟨w.heap.size, 1, none⟩)), .inl (Value.int .i64 m), .inl (Value.int .u64 (G : Int)), .inr (fun v wx => Own wx w.heap.size v (M.digs K ++ M.digs G)), .inr (fun v wx => Own wx w.heap.size v (M.digs K ++ M.digs G))] (Ex w2) Ex 21 (by kernel_rfl) rfl (by kernel_rfl) ?st hre (Ex.drew _) ?goods ?fin
    case st => exact ⟨IsByt.stands _, fun v w w' h hx => h.later hx, fun v w w' h hx => h.later hx, trivial⟩
    case goods =>
      refine Rg.goods_cons (Rg.good_field hre rfl rfl rfl (fun wx hC => by go_simp)) ?_
      refine Rg.goods_cons (Rg.good_load hre rfl rfl rfl (fun wx hC => by have hcz := (HF.out.below hC).all; obtain ⟨c0, c1, c2⟩ := hcz; go_simp)) ?_
      refine Rg.goods_cons (Rg.good_conv hre rfl rfl (by rintro u wx _ rfl; go_simp; exact I.wraps64 _ (by omega) (by omega))) ?_
      refine Rg.goods_cons (Rg.good_call2 Try.func32 (by kernel_rfl) rfl rfl rfl (by rintro u u2 wx hC rfl rfl; exact byt_row' (rput_is none 0 0 [] (M.digs K) _ K wx rfl rfl (Byt.nil _) rfl (by omega) (by simp)) hC)) ?_
      refine Rg.goods_cons (Rg.good_field hre rfl rfl rfl (fun wx hC => by go_simp)) ?_
      refine Rg.goods_cons (Rg.good_load hre rfl rfl rfl (fun wx hC => by have hcz := (HF.out.below hC).all; obtain ⟨c0, c1, c2⟩ := hcz; go_simp)) ?_
      refine Rg.goods_cons (Rg.good_call1 Try.func33 (by kernel_rfl) rfl rfl rfl (by rintro u wx hC rfl; exact val_row (rzig_any _ _ wx (by omega) (by omega) HG.out) hC)) ?_
      refine Rg.goods_cons (Rg.good_call2 Try.func32 (by kernel_rfl) rfl rfl rfl (by rintro u u2 wx hC hu rfl; obtain ⟨pa, pc, rfl, pb⟩ := hu; exact own_row (rput_is pa _ pc (M.digs K) _ _ G wx rfl rfl pb rfl (by omega) (by omega)) HW2.out hC)) ?_
      refine Rg.goods_cons (Rg.good_assign hre rfl rfl rfl) ?_
      exact Rg.goods_nil
    case fin =>
      intro w3 hx3
      simp only [Rg.later, Act.put, List.setIfInBounds_toArray, List.set_cons_succ, List.set_cons_zero]
      intro v11 _ v15 _ v4 h4
      have HO4 : Hid (Own w3 w.heap.size v4 (M.digs K ++ M.digs G)) := h4
      have HX3 : Hid (Ex w w3) := HX2.out.trans hx3
      have HF3 : Hid (XAt w3 w.heap.size K m (.slice a A.length cap) 28) := HF.out.below hx3
      obtain ⟨c0, c1, c2⟩ := HF3.out.all
      clear h4 hx3
      go_wp2_with fail
      refine (renc_any a A.length cap A _ rfl (HB.out.below HX3.out) hok (by omega) (D.enc A) rfl).mono ?_
      rintro e w5 ⟨v5, rfl, ⟨p5, c5, rfl, hb5⟩, hx5⟩
      have HO5 : Hid (Own w5 w.heap.size v4 (M.digs K ++ M.digs G)) := HO4.out.later hx5
      have HX5 : Hid (Ex w w5) := HX3.out.trans hx5
      have HB5 : Hid (Byt w5 p5 c5 (D.enc A)) := hb5
      clear hb5 hx5
      go_wp2_with (at_builtin; refine wpList_append_byt rfl (.tmp 16) (.tmp 19) rfl w.heap.size _ _ rfl HO5.out p5 _ c5 (D.enc A) rfl rfl HB5.out (by simp; omega) HX5.out.size ?_; intro v6 w6 ho6 hg6; have HX6 : Hid (Ex w w6) := step_below0 HX5.out HX5.out.size HO5.out hg6; have HO6 : Hid (Own w6 w.heap.size v6 (M.digs K ++ M.digs G ++ D.enc A)) := ho6; clear hg6 ho6)
      go_ret2
      exact ⟨_, rfl, by rw [← Hr.out]; exact HO6.out.isByt, HX6.out⟩
end Go.Proofs.Ytaehchaimlklnaa
