/-
  The walk of the law DeltaCuts: whatever numbers, place and bytes it is given, it returns true.
-/
import Derived.Test.YthpnjcakfigicaaKnown
namespace Go.Proofs.Ythpnjcakfigicaa.deltaCuts
open Go.RowKit
set_option linter.unusedVariables false

set_option maxRecDepth 100000 in
set_option maxHeartbeats 1000000 in
theorem walk (p0 : Option Addr) (c0 : Nat) (l0 : List Int) (a1 : Int) (p2 : Option Addr) (c2 : Nat) (l2 : List UInt8) (w : World) (b0 : Rd z64 w p0 c0 l0) (m0 : ∀ x ∈ l0, In64 x) (w0 : l0.length ≤ 17592186043904) (w1 : -9223372036854775808 ≤ a1 ∧ a1 ≤ 9223372036854775807) (b2 : Byt w p2 c2 l2) (w2 : l2.length ≤ 140737488351232) :
    Calls Try.prog 8 #[.slice p0 l0.length c0, .int .i64 a1, .slice p2 l2.length c2] w fun e w' => e = .returned (.bool true) ∧ Below w.heap.size w w' := by
  obtain ⟨w1, u1⟩ := w1
  obtain ⟨L, hL⟩ : ∃ L, l0.take 60 = L := ⟨_, rfl⟩
  have hLl : L.length ≤ 60 := by rw [← hL]; simp; omega
  have hLB : Rd z64 w p0 c0 L := by rw [← hL]; exact b0.take 60
  have hLo : ∀ x ∈ L, D.ok x := by rw [← hL]; exact fun x hx => m0 x (List.mem_of_mem_take hx)
  obtain ⟨E, hE⟩ : ∃ E, D.enc L = E := ⟨_, rfl⟩
  have hEl : E.length ≤ 610 := by rw [← hE]; have := (D.enc_len L).2; omega
  have hEp : 1 ≤ E.length := by rw [← hE]; exact (D.enc_len L).1
  obtain ⟨F, hF⟩ : ∃ F, E ++ l2 = F := ⟨_, rfl⟩
  have hFl : F.length = E.length + l2.length := by rw [← hF]; simp
  have hd2 : D.dec F 0 100 = (L, E.length, 0) := by
    have := D.dec_enc hLo (by omega) [] l2 100 (by omega)
    rw [hE] at this
    simp only [List.nil_append, List.length_nil] at this
    rw [hF] at this
    exact this
  have hcut : ∀ c, c < E.length → D.dec (E.take c) 0 (L.length : Int) = ([], 0, 10) := fun c hc => by
    rw [← hE] at hc ⊢
    exact D.dec_cut hLo (by omega) c hc _ (Int.le_refl _)
  have H0 : Hid (Rd z64 w p0 c0 l0) := b0
  have HB : Hid (Byt w p2 c2 l2) := b2
  have HLB : Hid (Rd z64 w p0 c0 L) := hLB
  have HL : Hid (l0.take 60 = L) := hL
  have HLo : Hid (∀ x ∈ L, D.ok x) := hLo
  have HE : Hid (D.enc L = E) := hE
  have HF : Hid (E ++ l2 = F) := hF
  have HD2 : Hid (D.dec F 0 100 = (L, E.length, 0)) := hd2
  have HCut : Hid (∀ c, c < E.length → D.dec (E.take c) 0 (L.length : Int) = ([], 0, 10)) := hcut
  have hF1 : F.length ≤ E.length + l2.length := by omega
  have tz : ((E.length : Int) == 0) = false := by simp only [beq_eq_false_iff_ne, ne_eq]; omega
  clear b0 b2 hLB hL hLo hE hF hd2 hcut m0 hFl
  go_enter Try.func8, Try.ntmps8
  go_wp2_with fail
  refine (few_is p0 c0 l0 L _ H0.out HL.out).mono ?_
  rintro e wq ⟨rfl, hw⟩
  have hw' := hw.symm; clear hw; subst hw'
  go_wp2_with fail
  refine (enc_is p0 _ c0 L _ rfl HLB.out HLo.out (by omega) _ HE.out).mono ?_
  rintro e w3 ⟨v3, rfl, hv3, hx3⟩
  obtain ⟨a3, c3, rfl, hB3⟩ := hv3
  have hc3 := hB3.1
  have hc3m := hB3.2.1
  have hc3i : c3 ≤ 9223372036854775807 := by unfold maxLen at hc3m; omega
  have HB3 : Hid (Byt w3 a3 c3 E) := hB3
  clear hB3
  go_wp2_with fail
  refine (within_any a1 _ _ w1 u1 (by omega) (by omega)).mono ?_
  rintro e wq ⟨K, hK, rfl, hw⟩
  have hw' := hw.symm; clear hw; subst hw'
  have hKE : K < E.length := by omega
  have hKc : (K : Int) ≤ (c3 : Int) := by omega
  have HC1 := HCut.out K hKE
  have HCk : Hid (D.dec (E.take K) 0 (L.length : Int) = ([], 0, 10)) := HC1
  have HKl : Hid (K = (E.take K).length) := (by simp; omega : K = (E.take K).length)
  clear HC1
  go_wp2_with fail
  refine (dec_is a3 _ c3 (E.take K) _ _ _ HKl.out (HB3.out.take (by omega)) (by simp; omega) (by omega) (by omega) (by omega) (by omega) (Or.inl (by omega)) _ _ _ HCk.out).mono ?_
  rintro e w4 ⟨v4, rfl, hv4, hx4⟩
  obtain ⟨a4, c4, rfl, _⟩ := hv4
  have X4 : Ex w3 w4 := hx4
  clear hx4
  go_wp2_with (first
    | (refine wpList_build_own rfl 38 rfl 0 [] rfl (by decide) (fun _ => by kernel_rfl) w4.heap.size (Nat.le_refl _) ?_; intro g38 w38 ho38 hx38)
    | (at_builtin; refine wpList_append_byt rfl (.tmp 38) (.tmp 39) rfl w4.heap.size _ [] rfl ho38 _ _ _ E rfl rfl ((HB3.out.below X4).below hx38) (by simp; omega) (Ex.size hx38) ?_; intro v40 w40 ho40 hg40; have X40 : Ex w4 w40 := step_below0 hx38 (Ex.size hx38) ho38 hg40; clear hg40; rw [List.nil_append] at ho40)
    | (at_builtin; refine wpList_append_byt rfl (.tmp 40) (.tmp 41) rfl w4.heap.size _ E rfl ho40 _ _ _ l2 rfl rfl (((HB.out.below hx3).below X4).below X40) (by omega) (Ex.size X40) ?_; intro v42 w42 ho42 hg42; have X42 : Ex w4 w42 := step_below0 X40 (Ex.size X40) ho40 hg42; clear hg42; rw [HF.out] at ho42; obtain ⟨a42, c42, hv42, hB42⟩ := ho42.byt; subst hv42))
  refine (dec_is a42 _ c42 F _ _ _ rfl hB42 (by omega) (by omega) (by omega) (by omega) (by omega) (Or.inl (by omega)) _ _ _ HD2.out).mono ?_
  rintro e w5 ⟨v5, rfl, hv5, hx5⟩
  obtain ⟨a5, c5, rfl, hB5⟩ := hv5
  have X5 : Ex w w5 := ((hx3.trans X4).trans X42).trans hx5
  have hee : ((E.length : Int) == (E.length : Int)) = true := by simp
  clear ho38 hx38 ho40 X40 ho42 hB42 X42 hx5 X4 hx3
  go_wp2_with fail
  refine (same64_any a5 p0 c5 c0 _ _ L L _ rfl rfl hB5 (HLB.out.below X5) true (by simp)).mono ?_
  rintro e w6 ⟨rfl, hx6⟩
  go_wp2_with fail
  refine (known_any _).mono ?_
  rintro e w7 ⟨rfl, hx7⟩
  go_wp2
  go_ret
  exact ⟨rfl, (X5.trans hx6).trans hx7⟩
end Go.Proofs.Ythpnjcakfigicaa.deltaCuts
