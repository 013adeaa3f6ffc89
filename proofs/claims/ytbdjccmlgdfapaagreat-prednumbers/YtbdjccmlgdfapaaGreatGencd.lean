/-
  The document's own encode, of some kinds. The document's own encode, of some kinds. The document's own encode. The document's own Encode.
-/
import Derived.Test.YtbdjccmlgdfapaaGreatGenc0
import Derived.Test.YtbdjccmlgdfapaaGreatGene
import Derived.Test.YtbdjccmlgdfapaaGreatGrt
namespace Go.Proofs.YtbdjccmlgdfapaaGreat
open Go.RowKit
set_option linter.unusedVariables false
set_option linter.unusedSimpArgs false
set_option maxHeartbeats 16000000 in
set_option maxRecDepth 100000 in
theorem renc_null (h : Hd) (ks : List Pr) (ih : ∀ k ∈ ks, EncC k) (hk : h.k = 9) : EncC (Pr.mk' h ks) := by
 intro v a n cap l r w hL hF hN hB hr hlen hn
 subst hn
 obtain ⟨hHd, hkn, hkB, hkc, hkm, hk0⟩ := hL.head
 obtain ⟨vk, vcol, vn, vm, vs, ⟨sa, sn, sc⟩, ⟨p, n, kc⟩⟩ := v
 obtain ⟨k, col, hn', m, s, set⟩ := h
 simp only at hkn hkB hkc hkm hk0
 subst hkn
 unfold maxLen at hkm
 obtain ⟨⟨hv1, hv2, hv3, hv4, hv5⟩, hsn, hSB, _⟩ := hHd
 simp only at hv1 hv2 hv3 hv4 hv5 hsn hSB
 subst hv1 hv2 hv3 hv4 hv5 hsn
 simp only at hk
 have hsc1 := hSB.1
 have hsc2 := hSB.2.1
 unfold maxLen at hsc2
 rw [Pd.form_mk, Bool.and_eq_true] at hF
 obtain ⟨hpt, hfk⟩ := hF
 rw [Pd.num_mk] at hN
 obtain ⟨⟨hn1, hn2⟩, hnk⟩ := hN
 rw [Pd.enc_mk] at hr
 have HIH : Hid (∀ k ∈ ks, EncC k) := ih
 have HLw : Hid (Pd.Lay (fun _ => True) (Pr.mk' ⟨vk, vcol, vn, vm, vs, set⟩ ks) w ⟨vk, vcol, vn, vm, vs, (sa, set.length, sc), p, ks.length, kc⟩) := hL
 have HFK : Hid (∀ k ∈ ks, Pd.form k = true) := (by simpa using hfk : ∀ k ∈ ks, Pd.form k = true)
 have HNK : Hid (∀ k ∈ ks, Pd.num k) := hnk
 have HRL : Hid (r.length ≤ 1000000) := hlen
 have HC0 : Hid _ := Pd.part_cases hpt
 obtain ⟨w0, hw0⟩ : ∃ w0, w.alloc (pb ⟨vk, vcol, vn, vm, vs, (sa, set.length, sc), p, ks.length, kc⟩) = w0 := ⟨_, rfl⟩
 have hX0 : Ex w w0 := by rw [← hw0]; exact (Below.refl _ _).alloc (Nat.le_refl _) _
 have HX0 : Hid (Ex w w0) := hX0
 have HP0 : Hid (PAt w0 w.heap.size ⟨vk, vcol, vn, vm, vs, (sa, set.length, sc), p, ks.length, kc⟩) := (by rw [← hw0]; exact PAt.new w _ : PAt w0 w.heap.size _)
 have HB0 : Hid (Byt w0 a cap l) := hB.below hX0
 have HSB : Hid (Rd st w0 sa sc set) := (hSB.below hX0 : Rd st w0 sa sc set)
 have hkr : 1 ≤ vk ∧ vk ≤ 10 := Pd.part_kind hpt
 have hKw : IntKind.u64.wrap vk = vk := I.wraps64 _ (by omega) (by omega)
 obtain ⟨l1, hl1⟩ : ∃ L, l ++ M.digs vk.toNat = L := ⟨_, rfl⟩
 have HL1 : Hid (l ++ M.digs vk.toNat = l1) := hl1
 obtain ⟨rest, hrest⟩ : ∃ R, (if vk = 1 ∨ vk = 2 then M.digs ks.length else if vk = 3 then [] else if vk = 10 then M.digs (M.zig vn).toNat ++ M.digs (M.zig vm).toNat
  else T.ptext vcol ++ (if vk = 4 ∨ vk = 5 then M.digs (M.zig vn).toNat else if vk = 6 ∨ vk = 8 then T.ptext vs else if vk = 7 then M.digs set.length ++ T.texts set else [])) = R := ⟨_, rfl⟩
 have HRS : Hid _ := hrest
 have HR : Hid (l1 ++ (rest ++ (ks.map Pd.enc).flatten) = r) := (by rw [← hr, ← hl1, ← hrest, Pd.encH]; simp : l1 ++ (rest ++ (ks.map Pd.enc).flatten) = r)
 have hq1 : l1.length + (rest.length + ((ks.map Pd.enc).flatten).length) = r.length := by have h := congrArg List.length HR.out; simp only [List.length_append] at h; exact h
 have hq0 : l.length ≤ l1.length := by rw [← hl1]; simp
 obtain ⟨c0, c1, c2, c3, c4, c5, c6⟩ := HP0.out.all
 simp only at c0 c1 c2 c3 c4 c5 c6
 have HQ1 : Hid (l1.length + (rest.length + ((ks.map Pd.enc).flatten).length) = r.length) := hq1
 have hq2 : l1.length ≤ 1000000 := by omega
 have HQ0 : Hid (l.length ≤ l1.length) := hq0
 have HKH : Hid _ := hk
 have HKR : Hid (1 ≤ vk ∧ vk ≤ 10) := hkr
 clear hL hB hX0 hfk hnk ih hkB hSB hpt hl1 hrest hr hq1 hq0 hk hlen
 unfold pvv
 simp only [sv]
 go_enter Tryz.func33, Tryz.ntmps33
 go_wp2_with fail
 go_at_call 57
 refine (rput_is a _ cap l l1 _ vk.toNat _ (by have := HKR.out; omega) HL1.out HB0.out rfl (by have := HKR.out; omega) (by have := HQ0.out; omega)).mono ?_
 rintro e w1 ⟨v1, rfl, ho, hx⟩
 have HO1 : Hid (Own w1 w.heap.size v1 l1) := (ho.mono HX0.out.size : Own w1 w.heap.size v1 _)
 have HX1 : Hid (Ex w w1) := (HX0.out.trans hx : Ex w w1)
 have HP1 : Hid (PAt w1 w.heap.size ⟨vk, vcol, vn, vm, vs, (sa, set.length, sc), p, ks.length, kc⟩) := (HP0.out.below hx : PAt _ _ _)
 have HSB1 : Hid (Rd st w1 sa sc set) := (HSB.out.below hx : Rd st w1 sa sc set)
 obtain ⟨a1, c1', hv1, hb⟩ := HO1.out.byt
 subst hv1
 have HB1 : Hid (Byt w1 a1 c1' l1) := hb
 clear ho hx hb c0 c1 c2 c3 c4 c5 c6
 obtain ⟨c0, c1, c2, c3, c4, c5, c6⟩ := HP1.out.all
 simp only at c0 c1 c2 c3 c4 c5 c6
 have hk := HKH.out
 have hRS := HRS.out
 clear HKH HRS
 have hks : ks = [] := by
  rcases HC0.out with ⟨k, hk', he⟩ | ⟨he, h1⟩ | ⟨k, c, x, hk', hc, he, h1⟩ | ⟨k, c, s1, hk', hc, hs1, he, h1⟩ | ⟨c, t, hc, ht, hta, hts, he, h1⟩ | ⟨c, hc, he, h1⟩ | ⟨x, y, he, h1⟩
  ·simp only [Pd.hk, Hd.mk.injEq] at he; omega
  ·simp only [Pd.hk, Hd.mk.injEq] at he; omega
  all_goals exact List.eq_nil_of_length_eq_zero h1
 have HRR : Hid (l1 ++ rest = r) := (by rw [← HR.out, hks]; simp : l1 ++ rest = r)
 have hre := Ex.refl
 have hq9 : l1.length + rest.length ≤ 1000000 := by have h1 := HQ1.out; have h2 := HRL.out; omega
 rw [if_neg (by omega), if_neg (by omega), if_neg (by omega), if_neg (by omega), if_neg (by omega), if_neg (by omega)] at hRS
 have HL2 : Hid (l1 ++ M.digs vcol.length ++ vcol = r) := (by rw [← HRR.out, ← hRS, T.ptext]; simp : l1 ++ M.digs vcol.length ++ vcol = r)
 have hq3 : vcol.length ≤ 1000000 := by have h1 := congrArg List.length HL2.out; have h2 := HRL.out; simp only [List.length_append] at h1; omega
 clear hRS
 subst hk
 go_wp2_with fail
 go_at_call 58
 refine (rputText_any a1 c1' l1 vcol r _ HB1.out HL2.out (by omega)).mono ?_
 rintro e w2 ⟨v2, rfl, ho2, hx2⟩
 have HO2 : Hid (Own w2 w.heap.size v2 r) := (ho2.mono HX1.out.size : Own w2 w.heap.size v2 _)
 have HX2 : Hid (Ex w w2) := (HX1.out.trans hx2 : Ex w w2)
 clear ho2 hx2
 go_wp2_with fail
 go_ret
 exact ⟨_, rfl, HO2.out, HX2.out⟩
end Go.Proofs.YtbdjccmlgdfapaaGreat
namespace Go.Proofs.YtbdjccmlgdfapaaGreat
open Go.RowKit
set_option linter.unusedVariables false
set_option linter.unusedSimpArgs false
set_option maxHeartbeats 16000000 in
set_option maxRecDepth 100000 in
theorem renc_btw (h : Hd) (ks : List Pr) (ih : ∀ k ∈ ks, EncC k) (hk : h.k = 10) : EncC (Pr.mk' h ks) := by
 intro v a n cap l r w hL hF hN hB hr hlen hn
 subst hn
 obtain ⟨hHd, hkn, hkB, hkc, hkm, hk0⟩ := hL.head
 obtain ⟨vk, vcol, vn, vm, vs, ⟨sa, sn, sc⟩, ⟨p, n, kc⟩⟩ := v
 obtain ⟨k, col, hn', m, s, set⟩ := h
 simp only at hkn hkB hkc hkm hk0
 subst hkn
 unfold maxLen at hkm
 obtain ⟨⟨hv1, hv2, hv3, hv4, hv5⟩, hsn, hSB, _⟩ := hHd
 simp only at hv1 hv2 hv3 hv4 hv5 hsn hSB
 subst hv1 hv2 hv3 hv4 hv5 hsn
 simp only at hk
 have hsc1 := hSB.1
 have hsc2 := hSB.2.1
 unfold maxLen at hsc2
 rw [Pd.form_mk, Bool.and_eq_true] at hF
 obtain ⟨hpt, hfk⟩ := hF
 rw [Pd.num_mk] at hN
 obtain ⟨⟨hn1, hn2⟩, hnk⟩ := hN
 rw [Pd.enc_mk] at hr
 have HIH : Hid (∀ k ∈ ks, EncC k) := ih
 have HLw : Hid (Pd.Lay (fun _ => True) (Pr.mk' ⟨vk, vcol, vn, vm, vs, set⟩ ks) w ⟨vk, vcol, vn, vm, vs, (sa, set.length, sc), p, ks.length, kc⟩) := hL
 have HFK : Hid (∀ k ∈ ks, Pd.form k = true) := (by simpa using hfk : ∀ k ∈ ks, Pd.form k = true)
 have HNK : Hid (∀ k ∈ ks, Pd.num k) := hnk
 have HRL : Hid (r.length ≤ 1000000) := hlen
 have HC0 : Hid _ := Pd.part_cases hpt
 obtain ⟨w0, hw0⟩ : ∃ w0, w.alloc (pb ⟨vk, vcol, vn, vm, vs, (sa, set.length, sc), p, ks.length, kc⟩) = w0 := ⟨_, rfl⟩
 have hX0 : Ex w w0 := by rw [← hw0]; exact (Below.refl _ _).alloc (Nat.le_refl _) _
 have HX0 : Hid (Ex w w0) := hX0
 have HP0 : Hid (PAt w0 w.heap.size ⟨vk, vcol, vn, vm, vs, (sa, set.length, sc), p, ks.length, kc⟩) := (by rw [← hw0]; exact PAt.new w _ : PAt w0 w.heap.size _)
 have HB0 : Hid (Byt w0 a cap l) := hB.below hX0
 have HSB : Hid (Rd st w0 sa sc set) := (hSB.below hX0 : Rd st w0 sa sc set)
 have hkr : 1 ≤ vk ∧ vk ≤ 10 := Pd.part_kind hpt
 have hKw : IntKind.u64.wrap vk = vk := I.wraps64 _ (by omega) (by omega)
 obtain ⟨l1, hl1⟩ : ∃ L, l ++ M.digs vk.toNat = L := ⟨_, rfl⟩
 have HL1 : Hid (l ++ M.digs vk.toNat = l1) := hl1
 obtain ⟨rest, hrest⟩ : ∃ R, (if vk = 1 ∨ vk = 2 then M.digs ks.length else if vk = 3 then [] else if vk = 10 then M.digs (M.zig vn).toNat ++ M.digs (M.zig vm).toNat
  else T.ptext vcol ++ (if vk = 4 ∨ vk = 5 then M.digs (M.zig vn).toNat else if vk = 6 ∨ vk = 8 then T.ptext vs else if vk = 7 then M.digs set.length ++ T.texts set else [])) = R := ⟨_, rfl⟩
 have HRS : Hid _ := hrest
 have HR : Hid (l1 ++ (rest ++ (ks.map Pd.enc).flatten) = r) := (by rw [← hr, ← hl1, ← hrest, Pd.encH]; simp : l1 ++ (rest ++ (ks.map Pd.enc).flatten) = r)
 have hq1 : l1.length + (rest.length + ((ks.map Pd.enc).flatten).length) = r.length := by have h := congrArg List.length HR.out; simp only [List.length_append] at h; exact h
 have hq0 : l.length ≤ l1.length := by rw [← hl1]; simp
 obtain ⟨c0, c1, c2, c3, c4, c5, c6⟩ := HP0.out.all
 simp only at c0 c1 c2 c3 c4 c5 c6
 have HQ1 : Hid (l1.length + (rest.length + ((ks.map Pd.enc).flatten).length) = r.length) := hq1
 have hq2 : l1.length ≤ 1000000 := by omega
 have HQ0 : Hid (l.length ≤ l1.length) := hq0
 have HKH : Hid _ := hk
 have HKR : Hid (1 ≤ vk ∧ vk ≤ 10) := hkr
 clear hL hB hX0 hfk hnk ih hkB hSB hpt hl1 hrest hr hq1 hq0 hk hlen
 unfold pvv
 simp only [sv]
 go_enter Tryz.func33, Tryz.ntmps33
 go_wp2_with fail
 go_at_call 57
 refine (rput_is a _ cap l l1 _ vk.toNat _ (by have := HKR.out; omega) HL1.out HB0.out rfl (by have := HKR.out; omega) (by have := HQ0.out; omega)).mono ?_
 rintro e w1 ⟨v1, rfl, ho, hx⟩
 have HO1 : Hid (Own w1 w.heap.size v1 l1) := (ho.mono HX0.out.size : Own w1 w.heap.size v1 _)
 have HX1 : Hid (Ex w w1) := (HX0.out.trans hx : Ex w w1)
 have HP1 : Hid (PAt w1 w.heap.size ⟨vk, vcol, vn, vm, vs, (sa, set.length, sc), p, ks.length, kc⟩) := (HP0.out.below hx : PAt _ _ _)
 have HSB1 : Hid (Rd st w1 sa sc set) := (HSB.out.below hx : Rd st w1 sa sc set)
 obtain ⟨a1, c1', hv1, hb⟩ := HO1.out.byt
 subst hv1
 have HB1 : Hid (Byt w1 a1 c1' l1) := hb
 clear ho hx hb c0 c1 c2 c3 c4 c5 c6
 obtain ⟨c0, c1, c2, c3, c4, c5, c6⟩ := HP1.out.all
 simp only at c0 c1 c2 c3 c4 c5 c6
 have hk := HKH.out
 have hRS := HRS.out
 clear HKH HRS
 have hks : ks = [] := by
  rcases HC0.out with ⟨k, hk', he⟩ | ⟨he, h1⟩ | ⟨k, c, x, hk', hc, he, h1⟩ | ⟨k, c, s1, hk', hc, hs1, he, h1⟩ | ⟨c, t, hc, ht, hta, hts, he, h1⟩ | ⟨c, hc, he, h1⟩ | ⟨x, y, he, h1⟩
  ·simp only [Pd.hk, Hd.mk.injEq] at he; omega
  ·simp only [Pd.hk, Hd.mk.injEq] at he; omega
  all_goals exact List.eq_nil_of_length_eq_zero h1
 have HRR : Hid (l1 ++ rest = r) := (by rw [← HR.out, hks]; simp : l1 ++ rest = r)
 have hre := Ex.refl
 have hq9 : l1.length + rest.length ≤ 1000000 := by have h1 := HQ1.out; have h2 := HRL.out; omega
 obtain ⟨G, hG, hGl⟩ := zig_nat' hn1
 have HG : Hid (M.zig vn = (G : Int)) := hG
 have htG : (M.zig vn).toNat = G := by rw [hG]; rfl
 have bG := hn1
 unfold In64 at bG
 obtain ⟨H, hH, hHl⟩ := zig_nat' hn2
 have HH : Hid (M.zig vm = (H : Int)) := hH
 have htH : (M.zig vm).toNat = H := by rw [hH]; rfl
 have bH := hn2
 unfold In64 at bH
 rw [if_neg (by omega), if_neg (by omega), if_pos hk, htG, htH] at hRS
 obtain ⟨l2, hl2⟩ : ∃ L, l1 ++ M.digs G = L := ⟨_, rfl⟩
 have HL2 : Hid (l1 ++ M.digs G = l2) := hl2
 have HL3 : Hid (l2 ++ M.digs H = r) := (by rw [← HRR.out, ← hRS, ← hl2]; simp : l2 ++ M.digs H = r)
 have hq3 : l2.length ≤ 1000000 := by have h1 := congrArg List.length HL3.out; have h2 := HRL.out; simp only [List.length_append] at h1; omega
 clear hl2 hRS htG hG htH hH
 subst hk
 go_wp2_with fail
 refine Rg.wp_rows_tail (List.take 9 _) (List.drop 9 _) (List.take_append_drop 9 _).symm [.inl (Value.slice a1 l1.length c1'), .inl (Value.pointer (some ⟨w.heap.size, 2, none⟩)), .inl (Value.int .i64 vn), .inl (Value.int .u64 (G : Int)), .inr (IsByt l2), .inl (Value.pointer (some ⟨w.heap.size, 3, none⟩)), .inl (Value.int .i64 vm), .inl (Value.int .u64 (H : Int)), .inr (fun v wx => Own wx w.heap.size v r)] (Ex w1) Ex 109 (by kernel_rfl) rfl (by kernel_rfl) (by kernel_rfl) (by kernel_rfl) (by decide) (by kernel_rfl) ?st hre (Ex.drew _) ?goods ?fin
 case st => exact ⟨IsByt.stands _, (fun v w' w'' h hx => h.later hx), trivial⟩
 case goods =>
  refine Rg.goods_cons (Rg.good_move hre rfl rfl rfl) ?_
  refine Rg.goods_cons (Rg.good_field hre rfl rfl rfl (fun wx hC => by go_simp)) ?_
  refine Rg.goods_cons (Rg.good_load hre rfl rfl rfl (fun wx hC => by have hz := (HP1.out.below hC).all.2.2.1; simp only at hz; go_simp)) ?_
  refine Rg.goods_cons (Rg.good_call1 Tryz.func59 (by kernel_rfl) rfl rfl rfl (by rintro y0 wx hC rfl; exact val_row (rzig_any vn G wx bG.1 bG.2 HG.out) hC)) ?_
  refine Rg.goods_cons (Rg.good_call2 Tryz.func57 (by kernel_rfl) rfl rfl rfl (by rintro y0 y1 wx hC rfl rfl; exact byt_row' (rput_is a1 _ c1' l1 l2 _ G wx rfl HL2.out (HB1.out.below hC) rfl hGl (by omega)) hC)) ?_
  refine Rg.goods_cons (Rg.good_field hre rfl rfl rfl (fun wx hC => by go_simp)) ?_
  refine Rg.goods_cons (Rg.good_load hre rfl rfl rfl (fun wx hC => by have hz := (HP1.out.below hC).all.2.2.2.1; simp only at hz; go_simp)) ?_
  refine Rg.goods_cons (Rg.good_call1 Tryz.func59 (by kernel_rfl) rfl rfl rfl (by rintro y0 wx hC rfl; exact val_row (rzig_any vm H wx bH.1 bH.2 HH.out) hC)) ?_
  refine Rg.goods_cons (Rg.good_call2 Tryz.func57 (by kernel_rfl) rfl rfl rfl (by rintro y0 y1 wx hC hu rfl; obtain ⟨pa, pc, rfl, pb⟩ := hu; exact own_row (rput_is pa _ pc l2 r _ H wx rfl HL3.out pb rfl hHl (by omega)) HX1.out.size hC)) ?_
  exact Rg.goods_nil
 case fin =>
  intro wx hx
  simp only [Rg.later, List.take_succ_cons, List.take_zero, List.drop_succ_cons, List.drop_zero, Act.put, List.setIfInBounds_toArray, List.set_cons_succ, List.set_cons_zero]
  rintro u51 _ uO hO
  have HXx : Hid (Ex w wx) := (HX1.out.trans hx : Ex w wx)
  have HOx : Hid (Own wx w.heap.size uO r) := hO
  clear hx hO
  go_wp2_with fail
  go_ret
  exact ⟨_, rfl, HOx.out, HXx.out⟩
end Go.Proofs.YtbdjccmlgdfapaaGreat
namespace Go.Proofs.YtbdjccmlgdfapaaGreat
open Go.RowKit
set_option linter.unusedVariables false
set_option linter.unusedSimpArgs false
theorem renc_is : ∀ q : Pr, EncC q := by
 refine Pd.tree ?_
 intro h l ih
 by_cases h1 : h.k = 1 ∨ h.k = 2
 ·exact renc_kids h l ih h1
 by_cases h3 : h.k = 3
 ·exact renc_not h l ih h3
 by_cases h4 : h.k = 4 ∨ h.k = 5
 ·exact renc_less h l ih h4
 by_cases h6 : h.k = 6 ∨ h.k = 8
 ·exact renc_is_ h l ih h6
 by_cases h7 : h.k = 7
 ·exact renc_set h l ih h7
 by_cases h9 : h.k = 9
 ·exact renc_null h l ih h9
 by_cases h10 : h.k = 10
 ·exact renc_btw h l ih h10
 ·intro v a n cap l r w hL hF
  rw [Pd.form_mk, Bool.and_eq_true] at hF
  have := Pd.part_kind hF.1
  omega
end Go.Proofs.YtbdjccmlgdfapaaGreat
namespace Go.Proofs.YtbdjccmlgdfapaaGreat
open Go.RowKit
set_option linter.unusedVariables false
set_option linter.unusedSimpArgs false
set_option maxHeartbeats 4000000 in
set_option maxRecDepth 100000 in
theorem rEncode_is (q : Pr) (v : PV) (w : World) (h : Pd.Lay (fun _ => True) q w v) (hF : Pd.Fine q) (hs : Pd.size q ≤ 1000000000) (R : List UInt8) (e0 : Nat) (hr : Pd.encE q = (R, e0)) :
  Calls Tryz.prog 8 #[pvv v] w fun e w' => ∃ p c, e = .returned (.tuple #[.slice p R.length c, .int .i64 e0]) ∧ Byt w' p c R ∧ Ex w w' := by
 obtain ⟨vk, vcol, vn, vm, vs, vset, vkids⟩ := v
 obtain ⟨W, hW⟩ : ∃ W, w.alloc (pb ⟨vk, vcol, vn, vm, vs, vset, vkids⟩) = W := ⟨_, rfl⟩
 have hXW : Ex w W := by rw [← hW]; exact (Below.refl _ _).alloc (Nat.le_refl _) _
 have HXW : Hid (Ex w W) := hXW
 have HP : Hid (PAt W w.heap.size ⟨vk, vcol, vn, vm, vs, vset, vkids⟩) := (by rw [← hW]; exact PAt.new w _ : PAt W w.heap.size _)
 have HL : Hid (Pd.Lay (fun _ => True) q W ⟨vk, vcol, vn, vm, vs, vset, vkids⟩) := (Pd.Lay.below _ h hXW : Pd.Lay _ _ W _)
 have HF : Hid (Pd.Fine q) := hF
 obtain ⟨o, ho⟩ : ∃ o, Pd.right q = o := ⟨_, rfl⟩
 have HO : Hid (Pd.right q = o) := ho
 have HE : Hid (Pd.encE q = (R, e0)) := hr
 have HC : Hid (Calls Tryz.prog 10 #[pvv ⟨vk, vcol, vn, vm, vs, vset, vkids⟩] W fun e w' => e = .returned (.bool o) ∧ Ex W w') := rRight_is q _ W HL.out hF hs o ho
 obtain ⟨c0, c1, c2, c3, c4, c5, c6⟩ := HP.out.all
 simp only at c0 c1 c2 c3 c4 c5 c6
 clear h hF hXW hr ho hs
 unfold pvv
 simp only [sv]
 go_enter Tryz.func8, Tryz.ntmps8
 go_wp2_with fail
 go_at_call 10
 refine Calls.mono HC.out ?_
 rintro e w1 ⟨rfl, hx1⟩
 have HX1 : Hid (Ex W w1) := (hx1 : Ex W w1)
 obtain ⟨d0, d1, d2, d3, d4, d5, d6⟩ := (HP.out.below hx1).all
 simp only at d0 d1 d2 d3 d4 d5 d6
 clear hx1 c0 c1 c2 c3 c4 c5 c6 HC
 cases o with
 | false =>
  have hRe : R = [] ∧ e0 = 12 := by have h := HE.out; unfold Pd.encE at h; rw [HO.out] at h; simp at h; exact ⟨h.1, h.2.symm⟩
  obtain ⟨rfl, rfl⟩ := hRe
  go_wp2_with fail
  go_ret2
  exact ⟨none, 0, rfl, Byt.nil _, HXW.out.trans HX1.out⟩
 | true =>
  have hRe : Pd.enc q = R ∧ 0 = e0 := by have h := HE.out; unfold Pd.encE at h; rw [if_pos HO.out] at h; simp only [Prod.mk.injEq] at h; exact h
  obtain ⟨hR, rfl⟩ := hRe
  have hro := HO.out
  unfold Pd.right at hro
  simp only [Bool.and_eq_true, decide_eq_true_eq] at hro
  have HRL : Hid (R.length ≤ 1000000) := (by rw [← hR]; have := Pd.enc_len q hro.2; omega : R.length ≤ 1000000)
  have HCE : Hid (Calls Tryz.prog 33 #[.slice none 0 0, pvv ⟨vk, vcol, vn, vm, vs, vset, vkids⟩] w1 fun e w' => ∃ v', e = .returned v' ∧ Own w' w1.heap.size v' R ∧ Ex w1 w') := renc_is q _ none 0 0 [] R w1 (Pd.Lay.below _ HL.out HX1.out) hro.2 (Pd.fine_num _ HF.out) (Byt.nil _) (by simpa using hR) HRL.out rfl
  clear hR hro
  go_wp2_with fail
  go_at_call 33
  refine Calls.mono HCE.out ?_
  rintro e w2 ⟨v2, rfl, ho2, hx2⟩
  obtain ⟨a2, c2, hv2, hb2⟩ := ho2.byt
  subst hv2
  have HB2 : Hid (Byt w2 a2 c2 R) := hb2
  have HX2 : Hid (Ex w w2) := (HXW.out.trans (HX1.out.trans hx2) : Ex w w2)
  clear ho2 hb2 hx2 HCE
  go_wp2_with fail
  go_ret2
  exact ⟨_, _, rfl, HB2.out, HX2.out⟩
end Go.Proofs.YtbdjccmlgdfapaaGreat
