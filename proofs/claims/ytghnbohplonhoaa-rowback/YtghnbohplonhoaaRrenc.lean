/-
  The document's own Encode of rows.
-/
import Derived.Test.YtghnbohplonhoaaRright
import Derived.Test.YtghnbohplonhoaaRvarint
import Derived.Test.YtghnbohplonhoaaZstep
namespace Go.Proofs.Ytghnbohplonhoaa
open Go.RowKit
set_option linter.unusedVariables false
set_option linter.unusedSimpArgs false
theorem zig_nat {n : Int} (h1 : -9223372036854775808 ≤ n) (h2 : n ≤ 9223372036854775807) : ∃ G : Nat, M.zig n = (G : Int) ∧ G < 18446744073709551616 := by
  have h : 0 ≤ M.zig n := by unfold M.zig; split <;> omega
  obtain ⟨G, hG⟩ := Int.eq_ofNat_of_zero_le h
  refine ⟨G, hG, ?_⟩
  have : M.zig n < 18446744073709551616 := by unfold M.zig; split <;> omega
  omega
/-- What a call may take of a row: numbers of 64 bits, lengths. -/
def RwOk (r : Rw) : Prop := In64 r.t ∧ In64 r.q ∧ ∀ c ∈ r.c, c.col.length ≤ maxLen ∧ c.s.length ≤ maxLen ∧ In64 c.k ∧ In64 c.n
set_option maxHeartbeats 8000000 in
set_option maxRecDepth 100000 in
theorem rrenc_own (v : RV) (r : Rw) (w : World) (h : RvOk w v r) (hl : RwOk r) (R : List UInt8) (e0 : Nat) (hr : Rw.encE r = (R, e0)) :
    Calls Try.prog 13 #[rvv v] w fun e w' => ∃ u, e = .returned (.tuple #[u, .int .i64 e0]) ∧ Own w' w.heap.size u R ∧ Ex w w' := by
  obtain ⟨vt, vq, p, n, cap⟩ := v
  have h0 := h
  obtain ⟨rfl, rfl, hn, hB⟩ := h
  simp only at hn hB
  subst hn
  have h1 := hB.1
  have h2 := hB.2.1
  unfold maxLen at h2
  have hx1 : Ex w (w.alloc (rb ⟨r.t, r.q, p, r.c.length, cap⟩)) := (Below.refl _ _).alloc (Nat.le_refl _) _
  have hz1 : LAt (w.alloc (rb ⟨r.t, r.q, p, r.c.length, cap⟩)) w.heap.size ⟨r.t, r.q, p, r.c.length, cap⟩ := LAt.new w _
  have hV : RvOk (w.alloc (rb ⟨r.t, r.q, p, r.c.length, cap⟩)) ⟨r.t, r.q, p, r.c.length, cap⟩ r := h0.below hx1
  obtain ⟨hlt, hlq, hlc⟩ := hl
  have hlc2 : ∀ c ∈ r.c, c.col.length ≤ maxLen ∧ c.s.length ≤ maxLen := fun c hc => ⟨(hlc c hc).1, (hlc c hc).2.1⟩
  unfold Rw.encE at hr
  cases hR : Rw.right r with
  | false =>
    rw [hR, if_neg (by simp)] at hr
    simp only [Prod.mk.injEq] at hr
    obtain ⟨rfl, rfl⟩ := hr
    unfold rvv
    simp only [sv]
    go_enter Try.func13, Try.ntmps13
    go_wp2_with fail
    refine (rright_is ⟨r.t, r.q, p, r.c.length, cap⟩ r _ hV hlc2 false hR).mono ?_
    rintro e w2 ⟨rfl, hx2⟩
    go_wp2_with fail
    go_ret2
    exact ⟨_, rfl, World.ownsRow_nil _ _ _ _, hx1.trans hx2⟩
  | true =>
    rw [hR, if_pos rfl] at hr
    simp only [Prod.mk.injEq] at hr
    obtain ⟨hr, rfl⟩ := hr
    obtain ⟨⟨q1, q2, q3, q4, q5⟩, q6, q7⟩ := (Rw.right_iff r).1 hR
    obtain ⟨G, hG, hg⟩ := zig_nat hlt.1 hlt.2
    obtain ⟨S, hS⟩ : ∃ S : Nat, r.q = S := Int.eq_ofNat_of_zero_le (by omega)
    have hS2 : S ≤ 1073741824 := by omega
    have hl0 := M.digs_len G
    have hl1 := M.digs_len S
    have hl2 := M.digs_len r.c.length
    obtain ⟨H, hH⟩ : ∃ H, M.digs G ++ M.digs S ++ M.digs r.c.length = H := ⟨_, rfl⟩
    have hHl : H.length ≤ 30 := by rw [← hH]; simp; omega
    have Hr : Hid (H ++ Rw.encCs r.c = R) := (by rw [← hr, ← hH]; unfold Rw.enc; rw [hG, hS]; simp : H ++ Rw.encCs r.c = R)
    have HH : Hid (M.digs G ++ M.digs S ++ M.digs r.c.length = H) := hH
    have HG : Hid (M.zig r.t = (G : Int)) := hG
    have HS : Hid (r.q = (S : Int)) := hS
    have HR : Hid (Rw.right r = true) := hR
    have HC6 : Hid (∀ c ∈ r.c, Rw.celOk c = true) := q6
    have HLc : Hid (∀ c ∈ r.c, c.col.length ≤ maxLen ∧ c.s.length ≤ maxLen ∧ In64 c.k ∧ In64 c.n) := hlc
    have HL2 : Hid (∀ c ∈ r.c, c.col.length ≤ maxLen ∧ c.s.length ≤ maxLen) := hlc2
    have HT1 : Hid (-9223372036854775808 ≤ r.t) := hlt.1
    have HT2 : Hid (r.t ≤ 9223372036854775807) := hlt.2
    have HV : Hid (RvOk (w.alloc (rb ⟨r.t, r.q, p, r.c.length, cap⟩)) ⟨r.t, r.q, p, r.c.length, cap⟩ r) := hV
    have HX1 : Hid (Ex w (w.alloc (rb ⟨r.t, r.q, p, r.c.length, cap⟩))) := hx1
    have HZ1 : Hid (LAt (w.alloc (rb ⟨r.t, r.q, p, r.c.length, cap⟩)) w.heap.size ⟨r.t, r.q, p, r.c.length, cap⟩) := hz1
    have HB : Hid (RdC w p cap r.c) := hB
    clear hr hR hG hS q1 q2 q3 q4 q6 q7 hlc hlc2 hV hx1 hz1 hB h0 hlt hlq hH
    unfold rvv
    simp only [sv]
    go_enter Try.func13, Try.ntmps13
    go_wp2_with fail
    refine (rright_is ⟨r.t, r.q, p, r.c.length, cap⟩ r _ HV.out HL2.out true HR.out).mono ?_
    rintro e w2 ⟨rfl, hx2⟩
    have HX2 : Hid (Ex w w2) := HX1.out.trans hx2
    have HZ2 : Hid (LAt w2 w.heap.size ⟨r.t, (S : Int), p, r.c.length, cap⟩) := (by have h := HZ1.out.below hx2; rw [← HS.out]; exact h : LAt w2 w.heap.size ⟨r.t, (S : Int), p, r.c.length, cap⟩)
    clear hx2
    obtain ⟨n0, n1, n2⟩ := HZ2.out.all
    go_wp2_with fail
    refine (rzig_any r.t (G : Int) _ HT1.out HT2.out HG.out).mono ?_
    rintro e w' ⟨rfl, hw⟩
    have hw := hw.symm
    subst hw
    go_wp2_with fail
    refine (rput_is none 0 0 [] (M.digs G) _ G _ rfl rfl (Byt.nil _) rfl (by omega) (by simp)).mono ?_
    rintro e w3 ⟨v3, rfl, ho3, hx3⟩
    obtain ⟨a3, c3, rfl, hb3⟩ := ho3.byt
    have HB3 : Hid (Byt w3 a3 c3 (M.digs G)) := hb3
    have HX3 : Hid (Ex w w3) := HX2.out.trans hx3
    have HZ3 : Hid (LAt w3 w.heap.size ⟨r.t, (S : Int), p, r.c.length, cap⟩) := HZ2.out.below hx3
    have HW3 : Hid (w.heap.size ≤ w3.heap.size) := HX3.out.size
    clear ho3 hb3 hx3 n0 n1 n2
    go_wp2_with fail
    have hre := Ex.refl
    refine Rg.wp_rows_tail (List.take 10 _) (List.drop 10 _) (List.take_append_drop 10 _).symm [.inl (Value.slice a3 (M.digs G).length c3), .inl (Value.pointer (some ⟨w.heap.size, 1, none⟩)), .inl (Value.int .i64 (S : Int)), .inl (Value.int .u64 (S : Int)), .inr (IsByt (M.digs G ++ M.digs S)), .inl (Value.pointer (some ⟨w.heap.size, 2, none⟩)), .inl (Value.slice p r.c.length cap), .inl (Value.int .i64 (r.c.length : Int)), .inl (Value.int .u64 (r.c.length : Int)), .inr (fun v wx => Own wx w.heap.size v H)] (Ex w3) Ex 57 (by kernel_rfl) rfl (by kernel_rfl) (by kernel_rfl) (by kernel_rfl) (by decide) (by kernel_rfl) ?st hre (Ex.drew _) ?goods ?fin
    case st => exact ⟨IsByt.stands _, fun v w w' h hx => h.later hx, trivial⟩
    case goods =>
      refine Rg.goods_cons (Rg.good_move hre rfl rfl rfl) ?_
      refine Rg.goods_cons (Rg.good_field hre rfl rfl rfl (fun wx hC => by go_simp)) ?_
      refine Rg.goods_cons (Rg.good_load hre rfl rfl rfl (fun wx hC => by obtain ⟨c0, c1, c2⟩ := (HZ3.out.below hC).all; go_simp)) ?_
      refine Rg.goods_cons (Rg.good_conv hre rfl rfl (by rintro u wx _ rfl; go_simp; exact I.wraps64 _ (by omega) (by omega))) ?_
      refine Rg.goods_cons (Rg.good_call2 Try.func39 (by kernel_rfl) rfl rfl rfl (by rintro u u2 wx hC rfl rfl; exact byt_row' (rput_is a3 _ c3 (M.digs G) _ _ S wx rfl rfl (HB3.out.below hC) rfl (by omega) (by omega)) hC)) ?_
      refine Rg.goods_cons (Rg.good_field hre rfl rfl rfl (fun wx hC => by go_simp)) ?_
      refine Rg.goods_cons (Rg.good_load hre rfl rfl rfl (fun wx hC => by obtain ⟨c0, c1, c2⟩ := (HZ3.out.below hC).all; go_simp)) ?_
      refine Rg.goods_cons (Rg.good_len hre rfl rfl (by rintro u wx hC rfl; go_simp)) ?_
      refine Rg.goods_cons (Rg.good_conv hre rfl rfl (by rintro u wx _ rfl; go_simp; exact I.wraps64 _ (by omega) (by omega))) ?_
      refine Rg.goods_cons (Rg.good_call2 Try.func39 (by kernel_rfl) rfl rfl rfl (by rintro u u2 wx hC hu rfl; obtain ⟨pa, pc, rfl, pb⟩ := hu; exact own_row (rput_is pa _ pc (M.digs G ++ M.digs S) _ _ r.c.length wx rfl HH.out pb rfl (by omega) (by simp; omega)) HW3.out hC)) ?_
      exact Rg.goods_nil
    case fin =>
      intro w4 hx4
      simp only [Rg.later, List.take_succ_cons, List.take_zero, List.drop_succ_cons, List.drop_zero, Act.put, List.setIfInBounds_toArray, List.set_cons_succ, List.set_cons_zero]
      intro v18 _ v4 h4
      have HO4 : Hid (Own w4 w.heap.size v4 H) := h4
      have HX4 : Hid (Ex w w4) := HX3.out.trans hx4
      have HZ4 : Hid (LAt w4 w.heap.size ⟨r.t, (S : Int), p, r.c.length, cap⟩) := HZ3.out.below hx4
      clear h4 hx4
      go_wp2_with fail
      go_loopw [4, 5, 6] (fun bv iv cv wr => ∃ (i : Nat) (B : List UInt8), i ≤ r.c.length ∧ iv = .int .i64 i ∧ Hid (H ++ Rw.encCs (r.c.take i) = B) ∧ B.length ≤ 30 + 100 * i ∧ Hid (Own wr w.heap.size bv B) ∧ Hid (LAt wr w.heap.size ⟨r.t, (S : Int), p, r.c.length, cap⟩) ∧ Hid (Ex w wr)) (fun bv iv cv wr => r.c.length - (intOf iv).toNat)
      case atStart => exact ⟨0, H, by omega, rfl, (by simp [Rw.encCs] : H ++ Rw.encCs (r.c.take 0) = H), by omega, HO4, HZ4, HX4⟩
      case round =>
        obtain ⟨i, B, hi, rfl, HBe, hBl, HOb, HZr, HXr⟩ := hrel
        obtain ⟨n0, n1, n2⟩ := HZr.out.all
        by_cases hlt : i < r.c.length
        · have hti : (i : Int) < (r.c.length : Int) := by omega
          obtain ⟨b, off, hpp, e0, e1, e2, e3⟩ := RdC.four (HB.out.below HXr.out) hlt
          obtain ⟨d, hd⟩ : ∃ d, r.c[i] = d := ⟨_, rfl⟩
          rw [hd] at e0 e1 e2 e3
          have hmem : d ∈ r.c := by rw [← hd]; exact List.getElem_mem hlt
          obtain ⟨m1, m2, m3, m4⟩ := HLc.out d hmem
          have hok := HC6.out d hmem
          have hlen := Rw.encC_len hok
          have hform : Rw.form d = true := by unfold Rw.celOk at hok; rw [Bool.and_eq_true] at hok; exact hok.2
          have hname : Rw.name d.col = true := by unfold Rw.celOk at hok; rw [Bool.and_eq_true] at hok; exact hok.1
          have hcl12 : d.col.length ≤ 12 := ((Rw.name_iff _).1 hname).2.2
          have hnx : r.c.take (i + 1) = r.c.take i ++ [d] := by rw [List.take_add_one, List.getElem?_eq_getElem hlt, hd]; rfl
          have hkk : d.k = 1 ∨ d.k = 2 := by rcases (Rw.form_iff d).1 hform with h | h <;> omega
          obtain ⟨K, hK⟩ : ∃ K : Nat, d.k = K := Int.eq_ofNat_of_zero_le (by omega)
          have hK12 : K = 1 ∨ K = 2 := by omega
          have hK2 : K ≤ 2 := by omega
          have hsl : d.s.length ≤ 40 := by
            rcases (Rw.form_iff d).1 hform with h | h
            · rw [h.2]; simp
            · exact h.2.2
          obtain ⟨G2, hG2, hg2⟩ := zig_nat m4.1 m4.2
          obtain ⟨B2, hB2⟩ : ∃ B2, B ++ Rw.encC d = B2 := ⟨_, rfl⟩
          have HB2e : Hid (H ++ Rw.encCs (r.c.take (i + 1)) = B2) := (by rw [hnx, Rw.encCs_snoc, ← List.append_assoc, HBe.out, hB2] : H ++ Rw.encCs (r.c.take (i + 1)) = B2)
          have hB2l : B2.length ≤ 30 + 100 * i + 100 := by rw [← hB2]; simp; omega
          obtain ⟨B1, hB1⟩ : ∃ B1, B ++ M.digs d.col.length ++ d.col ++ M.digs K = B1 := ⟨_, rfl⟩
          have hdK := M.digs_len K
          have hdc := M.digs_len d.col.length
          have hdG := M.digs_len G2
          have hds := M.digs_len d.s.length
          have hB1l : B1.length ≤ 30 + 100 * i + 40 := by rw [← hB1]; simp; omega
          have HB1 : Hid (B ++ M.digs d.col.length ++ d.col ++ M.digs K = B1) := hB1
          have HB2 : Hid (B1 ++ (if K = 1 then M.digs G2 else M.digs d.s.length ++ d.s) = B2) := (by rw [← hB2, ← hB1]; unfold Rw.encC T.ptext; rw [hK, hG2]; by_cases h : K = 1 <;> simp [h] <;> omega : B1 ++ (if K = 1 then M.digs G2 else M.digs d.s.length ++ d.s) = B2)
          have HK : Hid (d.k = (K : Int)) := hK
          have HG2 : Hid (M.zig d.n = (G2 : Int)) := hG2
          have HN1 : Hid (-9223372036854775808 ≤ d.n) := m4.1
          have HN2 : Hid (d.n ≤ 9223372036854775807) := m4.2
          have HK12 : Hid (K = 1 ∨ K = 2) := hK12
          rw [hK] at e1
          obtain ⟨a4, c4, hv4, hb4⟩ := HOb.out.byt
          subst hv4
          obtain ⟨w5, hw5⟩ : ∃ w5, w5 = wr.alloc (cb ⟨d.col, (K : Int), d.n, d.s⟩) := ⟨_, rfl⟩
          have hx5 : Ex wr w5 := by rw [hw5]; exact (Below.refl _ _).alloc (Nat.le_refl _) _
          have HX5 : Hid (Ex w w5) := HXr.out.trans hx5
          have HZ5 : Hid (LAt w5 w.heap.size ⟨r.t, (S : Int), p, r.c.length, cap⟩) := HZr.out.below hx5
          have HB5 : Hid (Byt w5 a4 c4 B) := hb4.below hx5
          have HE5 : Hid (EAt w5 wr.heap.size ⟨d.col, (K : Int), d.n, d.s⟩) := (by rw [hw5]; exact EAt.new wr _ : EAt w5 wr.heap.size ⟨d.col, (K : Int), d.n, d.s⟩)
          have HW5 : Hid (w5 = wr.alloc (cb ⟨d.col, (K : Int), d.n, d.s⟩)) := hw5
          have HWs : Hid (w.heap.size ≤ w5.heap.size) := HX5.out.size
          have hszr : w.heap.size < wr.heap.size := HZr.out.lt
          subst hpp
          clear hd hmem m1 m2 m3 m4 hok hform hname hnx hkk hK hK12 hG2 hB2 hB1 hb4 hw5 hx5
          go_wp2_with fail
          rw [← HW5.out]
          have hre := Ex.refl
          refine Rg.wp_rows_tail (List.take 8 _) (List.drop 8 _) (List.take_append_drop 8 _).symm [.inl (Value.slice a4 B.length c4), .inl (Value.pointer (some ⟨wr.heap.size, 0, none⟩)), .inl (Value.string (str d.col)), .inr (IsByt (B ++ M.digs d.col.length ++ d.col)), .inl (Value.pointer (some ⟨wr.heap.size, 1, none⟩)), .inl (Value.int .i64 (K : Int)), .inl (Value.int .u64 (K : Int)), .inr (fun v wx => Own wx w.heap.size v B1)] (Ex w5) Ex 57 (by kernel_rfl) rfl (by kernel_rfl) (by kernel_rfl) (by kernel_rfl) (by decide) (by kernel_rfl) ?st hre (Ex.drew _) ?goods ?fin
          case st => exact ⟨IsByt.stands _, fun v w w' h hx => h.later hx, trivial⟩
          case goods =>
            refine Rg.goods_cons (Rg.good_move hre rfl rfl rfl) ?_
            refine Rg.goods_cons (Rg.good_field hre rfl rfl rfl (fun wx hC => by go_simp)) ?_
            refine Rg.goods_cons (Rg.good_load hre rfl rfl rfl (fun wx hC => by obtain ⟨c0, c1, c2, c3⟩ := (HE5.out.below hC).all; go_simp)) ?_
            refine Rg.goods_cons (Rg.good_call2 Try.func41 (by kernel_rfl) rfl rfl rfl (by rintro u u2 wx hC rfl rfl; exact byt_row' (rputText_any a4 c4 B d.col _ wx (HB5.out.below hC) rfl (by omega)) hC)) ?_
            refine Rg.goods_cons (Rg.good_field hre rfl rfl rfl (fun wx hC => by go_simp)) ?_
            refine Rg.goods_cons (Rg.good_load hre rfl rfl rfl (fun wx hC => by obtain ⟨c0, c1, c2, c3⟩ := (HE5.out.below hC).all; go_simp)) ?_
            refine Rg.goods_cons (Rg.good_conv hre rfl rfl (by rintro u wx _ rfl; go_simp; exact I.wraps64 _ (by omega) (by omega))) ?_
            refine Rg.goods_cons (Rg.good_call2 Try.func39 (by kernel_rfl) rfl rfl rfl (by rintro u u2 wx hC hu rfl; obtain ⟨pa, pc, rfl, pb⟩ := hu; exact own_row (rput_is pa _ pc (B ++ M.digs d.col.length ++ d.col) _ _ K wx rfl HB1.out pb rfl (by omega) (by simp; omega)) HWs.out hC)) ?_
            exact Rg.goods_nil
          case fin =>
            intro w6 hx6
            simp only [Rg.later, List.take_succ_cons, List.take_zero, List.drop_succ_cons, List.drop_zero, Act.put, List.setIfInBounds_toArray, List.set_cons_succ, List.set_cons_zero]
            intro v39 _ v4 h4
            obtain ⟨a6, c6, rfl, hb6⟩ := h4.byt
            have HB6 : Hid (Byt w6 a6 c6 B1) := hb6
            have HX6 : Hid (Ex w w6) := HX5.out.trans hx6
            have HZ6 : Hid (LAt w6 w.heap.size ⟨r.t, (S : Int), some ⟨b, off, none⟩, r.c.length, cap⟩) := HZ5.out.below hx6
            obtain ⟨g0, g1, g2, g3⟩ := (HE5.out.below hx6).all
            clear h4 hb6 hx6
            rcases HK12.out with hk | hk
            · have tk : ((K : Int) == 1) = true := by simp; omega
              have HB2' : Hid (B1 ++ M.digs G2 = B2) := (by rw [← HB2.out, if_pos hk] : B1 ++ M.digs G2 = B2)
              clear hk
              go_wp2_with fail
              refine (rzig_any d.n (G2 : Int) _ HN1.out HN2.out HG2.out).mono ?_
              rintro e w' ⟨rfl, hw⟩
              have hw := hw.symm
              subst hw
              go_wp2_with fail
              refine (rput_is a6 _ c6 B1 B2 _ G2 _ rfl HB2'.out HB6.out rfl (by omega) (by omega)).mono ?_
              rintro e w7 ⟨v7, rfl, ho7, hx7⟩
              have HO7 : Hid (Own w7 w.heap.size v7 B2) := (ho7.mono HX6.out.size : Own w7 w.heap.size v7 B2)
              have HX7 : Hid (Ex w w7) := HX6.out.trans hx7
              have HZ7 : Hid (LAt w7 w.heap.size ⟨r.t, (S : Int), some ⟨b, off, none⟩, r.c.length, cap⟩) := HZ6.out.below hx7
              clear ho7 hx7 g0 g1 g2 g3
              go_wp2_with fail
              go_roundw
              case rel => exact ⟨i + 1, B2, by omega, by go_num, HB2e, by omega, HO7, HZ7, HX7⟩
              case measure => simp [intOf]; omega
            · have tk : ((K : Int) == 1) = false := by simp; omega
              have HB2' : Hid (B1 ++ M.digs d.s.length ++ d.s = B2) := (by rw [← HB2.out, if_neg (by omega), List.append_assoc] : B1 ++ M.digs d.s.length ++ d.s = B2)
              clear hk
              go_wp2_with fail
              refine (rputText_any a6 c6 B1 d.s B2 _ HB6.out HB2'.out (by omega)).mono ?_
              rintro e w7 ⟨v7, rfl, ho7, hx7⟩
              have HO7 : Hid (Own w7 w.heap.size v7 B2) := (ho7.mono HX6.out.size : Own w7 w.heap.size v7 B2)
              have HX7 : Hid (Ex w w7) := HX6.out.trans hx7
              have HZ7 : Hid (LAt w7 w.heap.size ⟨r.t, (S : Int), some ⟨b, off, none⟩, r.c.length, cap⟩) := HZ6.out.below hx7
              clear ho7 hx7 g0 g1 g2 g3
              go_wp2_with fail
              go_roundw
              case rel => exact ⟨i + 1, B2, by omega, by go_num, HB2e, by omega, HO7, HZ7, HX7⟩
              case measure => simp [intOf]; omega
        · have hti : ¬ (i : Int) < (r.c.length : Int) := by omega
          have HF : Hid (B = R) := (by rw [← HBe.out, List.take_of_length_le (by omega)]; exact Hr.out : B = R)
          go_wp2_with fail
          go_ret2
          exact ⟨_, rfl, by rw [← HF.out]; exact HOb.out, HXr.out⟩
end Go.Proofs.Ytghnbohplonhoaa
