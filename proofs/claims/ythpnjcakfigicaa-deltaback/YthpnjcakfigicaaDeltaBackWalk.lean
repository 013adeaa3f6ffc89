/-
  The walk of the law DeltaBack: whatever bytes and numbers it is given, it returns true.
-/
import Derived.Test.YthpnjcakfigicaaKnown
namespace Go.Proofs.Ythpnjcakfigicaa.deltaBack
open Go.RowKit
set_option linter.unusedVariables false

set_option maxRecDepth 100000 in
set_option maxHeartbeats 1000000 in
theorem walk (p0 : Option Addr) (c0 : Nat) (l0 : List UInt8) (p1 : Option Addr) (c1 : Nat) (l1 : List Int) (w : World) (b0 : Byt w p0 c0 l0) (w0 : l0.length ≤ 140737488351232) (b1 : Rd z64 w p1 c1 l1) (m1 : ∀ x ∈ l1, In64 x) (w1 : l1.length ≤ 17592186043904) :
    Calls Try.prog 5 #[.slice p0 l0.length c0, .slice p1 l1.length c1] w fun e w' => e = .returned (.bool true) ∧ Below w.heap.size w w' := by
  obtain ⟨L, hL⟩ : ∃ L, l1.take 60 = L := ⟨_, rfl⟩
  have hLl : L.length ≤ 60 := by rw [← hL]; simp; omega
  have hLB : Rd z64 w p1 c1 L := by rw [← hL]; exact b1.take 60
  have hLo : ∀ x ∈ L, D.ok x := by rw [← hL]; exact fun x hx => m1 x (List.mem_of_mem_take hx)
  obtain ⟨E, hE⟩ : ∃ E, D.enc L = E := ⟨_, rfl⟩
  have hEl : E.length ≤ 610 := by rw [← hE]; have := (D.enc_len L).2; omega
  obtain ⟨F, hF⟩ : ∃ F, l0 ++ E = F := ⟨_, rfl⟩
  have hFl : F.length = l0.length + E.length := by rw [← hF]; simp
  have hd1 : D.dec F (l0.length : Int) (L.length : Int) = (L, F.length, 0) := by
    have := D.dec_enc hLo (by omega) l0 [] (L.length : Int) (Int.le_refl _)
    rw [List.append_nil, hE, hF] at this
    exact this
  obtain ⟨⟨r2, k2, e2⟩, hd2⟩ : ∃ x, D.dec F (l0.length : Int) ((L.length : Int) - 1) = x := ⟨_, rfl⟩
  have hmany : 0 < L.length → e2 = 4 := by
    intro h0
    have := D.dec_many (l := L) (by omega) l0 [] ((L.length : Int) - 1) (by omega) h0
    rw [List.append_nil, hE, hF, hd2] at this
    simp only [Prod.mk.injEq] at this
    exact this.2.2
  have H1 : Hid (Rd z64 w p1 c1 l1) := b1
  have HB : Hid (Byt w p0 c0 l0) := b0
  have HLB : Hid (Rd z64 w p1 c1 L) := hLB
  have HL : Hid (l1.take 60 = L) := hL
  have HLo : Hid (∀ x ∈ L, D.ok x) := hLo
  have HE : Hid (D.enc L = E) := hE
  have HF : Hid (l0 ++ E = F) := hF
  have HD1 : Hid (D.dec F (l0.length : Int) (L.length : Int) = (L, F.length, 0)) := hd1
  have HD2 : Hid (D.dec F (l0.length : Int) ((L.length : Int) - 1) = (r2, k2, e2)) := hd2
  have HMany : Hid (0 < L.length → e2 = 4) := hmany
  have hF1 : F.length ≤ l0.length + E.length := by omega
  clear b0 b1 hLB hL hLo hE hF hd1 hd2 hmany m1 hFl
  go_enter Try.func5, Try.ntmps5
  go_wp2_with fail
  refine (few_is p1 c1 l1 L _ H1.out HL.out).mono ?_
  rintro e wq ⟨rfl, hw⟩
  have hw' := hw.symm; clear hw; subst hw'
  go_wp2_with (first
    | (refine wpList_build_own rfl 14 rfl 0 [] rfl (by decide) (fun _ => by kernel_rfl) w.heap.size (Nat.le_refl _) ?_; intro g14 w14 ho14 hx14)
    | (at_builtin; refine wpList_append_byt rfl (.tmp 14) (.tmp 15) rfl w.heap.size _ [] rfl ho14 _ _ _ l0 rfl rfl (HB.out.below hx14) (by simp; omega) (Ex.size hx14) ?_; intro v16 w16 ho16 hg16; have X16 : Ex w w16 := step_below0 hx14 (Ex.size hx14) ho14 hg16; clear hg16; rw [List.nil_append] at ho16))
  refine (enc_is p1 _ c1 L _ rfl (HLB.out.below X16) HLo.out (by omega) _ HE.out).mono ?_
  rintro e w18 ⟨v18, rfl, hv18, hx18⟩
  obtain ⟨a18, c18, rfl, hB18⟩ := hv18
  have X18 : Ex w w18 := X16.trans hx18
  have ho18 : Own w18 w.heap.size v16 l0 := ho16.later hx18
  clear ho14 hx14 ho16 X16 hx18
  go_wp2_with (at_builtin; refine wpList_append_byt rfl (.tmp 16) (.tmp 18) rfl w.heap.size _ l0 rfl ho18 _ _ _ E rfl rfl hB18 (by omega) (Ex.size X18) ?_; intro v19 w19 ho19 hg19; have X19 : Ex w w19 := step_below0 X18 (Ex.size X18) ho18 hg19; clear hg19; rw [HF.out] at ho19; obtain ⟨a19, c19, hv19, hB19⟩ := ho19.byt; subst hv19)
  have HB19 : Hid (Byt w19 a19 c19 F) := hB19
  clear ho18 ho19 hB18 hB19 X18
  refine (dec_is a19 _ c19 F _ _ _ rfl HB19.out (by omega) (by omega) (by omega) (by omega) (by omega) (Or.inl (by omega)) _ _ _ HD1.out).mono ?_
  rintro e w20 ⟨v20, rfl, hv20, hx20⟩
  obtain ⟨a20, c20, rfl, hB20⟩ := hv20
  have X20 : Ex w w20 := X19.trans hx20
  have hne : ((F.length : Int) != (F.length : Int)) = false := by simp
  go_wp2_with fail
  refine (same64_any a20 p1 c20 c1 _ _ L L _ rfl rfl hB20 (HLB.out.below X20) true (by simp)).mono ?_
  rintro e w21 ⟨rfl, hx21⟩
  go_wp2_with fail
  refine (dec_is a19 _ c19 F _ _ _ rfl ((HB19.out.below hx20).below hx21) (by omega) (by omega) (by omega) (by omega) (by omega) (Or.inl (by omega)) _ _ _ HD2.out).mono ?_
  rintro e w22 ⟨v22, rfl, hv22, hx22⟩
  have X22 : Ex w w22 := (X20.trans hx21).trans hx22
  clear hv22 hx22 hx21 X20 hx20 hB20 X19
  by_cases hz : L.length = 0
  · have tz : ((L.length : Int) == 0) = true := by rw [hz]; rfl
    go_wp2_with fail
    refine (known_any _).mono ?_
    rintro e w23 ⟨rfl, hx23⟩
    go_wp2
    go_ret
    exact ⟨rfl, X22.trans hx23⟩
  · have tz : ((L.length : Int) == 0) = false := by simp only [beq_eq_false_iff_ne, ne_eq]; omega
    have he := HMany.out (by omega)
    subst he
    go_wp2_with fail
    refine (known_any _).mono ?_
    rintro e w23 ⟨rfl, hx23⟩
    go_wp2
    go_ret
    exact ⟨rfl, X22.trans hx23⟩
end Go.Proofs.Ythpnjcakfigicaa.deltaBack
