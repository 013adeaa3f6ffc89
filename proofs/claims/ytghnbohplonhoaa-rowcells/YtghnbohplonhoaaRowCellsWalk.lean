/-
  The walk of RowCells.
-/
import Derived.Test.YtghnbohplonhoaaRknown
import Derived.Test.YtghnbohplonhoaaBook
import Derived.Test.YtghnbohplonhoaaChain
import Derived.Test.YtghnbohplonhoaaRcells
import Derived.Test.YtghnbohplonhoaaRrgrow
import Derived.Test.YtghnbohplonhoaaRstore
namespace Go.Proofs.Ytghnbohplonhoaa.rowCells
open Go.RowKit Go.Proofs.Ytghnbohplonhoaa
set_option linter.unusedVariables false
set_option linter.unusedSimpArgs false
set_option maxRecDepth 100000 in
set_option maxHeartbeats 8000000 in
theorem walk (v0 : RV) (r0 : Rw) (a1 : Int) (s2 : List UInt8) (w : World) (b0 : RvOk w v0 r0) (m0 : RowOk r0) (n0 : r0.c.length ≤ 2932031007402) (w1 : -9223372036854775808 ≤ a1 ∧ a1 ≤ 9223372036854775807) (w2 : s2.length ≤ 140737488351232) :
    Calls Try.prog 8 #[rvv v0, .int .i64 a1, .string (str s2)] w fun e w' => e = .returned (.bool true) ∧ Below w.heap.size w w' := by
  obtain ⟨t0, q0, p0, l0, c0⟩ := v0
  obtain ⟨ht, hq, hl0, hB⟩ := b0
  simp only at ht hq hl0 hB
  subst ht
  subst hq
  subst hl0
  have HB : Hid (RdC w p0 c0 r0.c) := hB
  have hbnd := hB.1
  have hbnd2 := hB.2.1
  unfold maxLen at hbnd2
  obtain ⟨r, hr⟩ : ∃ r, Rw.shr r0 = r := ⟨_, rfl⟩
  have HSh : Hid (Rw.short [r0] 1 = [r]) := (by rw [← hr]; rfl : Rw.short [r0] 1 = [r])
  have HOk : Hid (RwOk r) := (by rw [← hr]; exact Rw.shr_ok m0 : RwOk r)
  have hrl : r.c.length ≤ 10 := by rw [← hr]; exact Rw.shr_len r0
  have HSm : Hid (∀ c ∈ r.c, c.col.length ≤ 20 ∧ c.s.length ≤ 41) := (by rw [← hr]; exact Rw.shr_small r0 : ∀ c ∈ r.c, c.col.length ≤ 20 ∧ c.s.length ≤ 41)
  obtain ⟨wA, hwA⟩ : ∃ wA, w.alloc (Obj.cells #[Value.int IntKind.i64 r0.t, Value.int IntKind.i64 r0.q, Value.slice p0 r0.c.length c0] 28) = wA := ⟨_, rfl⟩
  have HXA : Hid (Ex w wA) := (by rw [← hwA]; exact (Below.refl _ _).alloc (Nat.le_refl _) _ : Ex w wA)
  have HLA : Hid (LAt wA w.heap.size ⟨r0.t, r0.q, p0, r0.c.length, c0⟩) := (by rw [← hwA]; exact LAt.new w ⟨r0.t, r0.q, p0, r0.c.length, c0⟩ : LAt wA w.heap.size ⟨r0.t, r0.q, p0, r0.c.length, c0⟩)
  have HWA : Hid (w.alloc (Obj.cells #[Value.int IntKind.i64 r0.t, Value.int IntKind.i64 r0.q, Value.slice p0 r0.c.length c0] 28) = wA) := hwA
  obtain ⟨d0, d1, d2⟩ := HLA.out.all
  simp only at d0 d1 d2
  obtain ⟨wB, hwB⟩ : ∃ wB, wA.alloc (Obj.cells #[Value.int IntKind.i64 r0.t, Value.int IntKind.i64 r0.q, Value.slice p0 r0.c.length c0] 28) = wB := ⟨_, rfl⟩
  have HXB : Hid (Ex wA wB) := (by rw [← hwB]; exact (Below.refl _ _).alloc (Nat.le_refl _) _ : Ex wA wB)
  have hsA : wA.heap.size = w.heap.size + 1 := by rw [← hwA]; simp
  have HRB : Hid (RdR wB (some ⟨w.heap.size + 1, 0, none⟩) 1 [r0]) := (by
    rw [← hsA]
    exact ⟨[⟨r0.t, r0.q, p0, r0.c.length, c0⟩], (by rw [← hwB]; exact RdW.laid (t := 28) rc_len wA [⟨r0.t, r0.q, p0, r0.c.length, c0⟩] (by simp)), EachR.one ⟨rfl, rfl, rfl, (HB.out.below HXA.out).below HXB.out⟩⟩ : RdR wB (some ⟨w.heap.size + 1, 0, none⟩) 1 [r0])
  have HWB : Hid (wA.alloc (Obj.cells #[Value.int IntKind.i64 r0.t, Value.int IntKind.i64 r0.q, Value.slice p0 r0.c.length c0] 28) = wB) := hwB
  clear hB hr hwA hwB hsA
  simp only [rvv, sv]
  go_enter Try.func8, Try.ntmps8
  go_wp2_with fail
  rw [HWA.out, HWB.out]
  refine (kshort_is _ 1 1 [r0] 1 _ rfl HRB.out (by omega) (by simpa using n0)).mono ?_
  rintro e w3 ⟨v, rfl, hv, hx3⟩
  rw [HSh.out] at hv
  obtain ⟨a3, c3, rfl, hR3⟩ := hv.rd
  obtain ⟨b3, o3, p, c, he, e0, e1, e2, hcs⟩ := hR3.at (i := 0) (by simp)
  subst he
  simp only [List.getElem_cons_zero, Nat.zero_mul, Nat.add_zero] at e0 e1 e2 hcs
  have hx3A : Ex wA w3 := HXB.out.trans hx3
  have HL3 : Hid (LAt w3 w.heap.size ⟨r0.t, r0.q, p0, r0.c.length, c0⟩) := HLA.out.below hx3A
  have hc3 := hR3.bounds.2.1
  have hc31 := hR3.bounds.1
  simp only [List.length_cons, List.length_nil, Nat.zero_add] at hc31
  unfold maxLen at hc3
  have hcb := hcs.1
  have hcb2 := hcs.2.1
  unfold maxLen at hcb2
  obtain ⟨w4, hw4⟩ : ∃ w4, lset w3 w.heap.size ⟨r.t, r.q, p, r.c.length, c⟩ = w4 := ⟨_, rfl⟩
  have HW4 : Hid (((w3.setCell ⟨w.heap.size, 0, none⟩ (.int .i64 r.t)).setCell ⟨w.heap.size, 1, none⟩ (.int .i64 r.q)).setCell ⟨w.heap.size, 2, none⟩ (.slice p r.c.length c) = w4) := hw4
  have HL4 : Hid (LAt w4 w.heap.size ⟨r.t, r.q, p, r.c.length, c⟩) := (by rw [← hw4]; exact HL3.out.store _ : LAt w4 w.heap.size ⟨r.t, r.q, p, r.c.length, c⟩)
  have HX4 : Hid (Ex w w4) := (by rw [← hw4]; exact Below.lset (HXA.out.trans hx3A) (Nat.le_refl _) _ : Ex w w4)
  have HR4 : Hid (RdC w4 p c r.c) := (by rw [← hw4]; exact hcs.lset HL3.out _ : RdC w4 p c r.c)
  have f3 := HL3.out.fro
  obtain ⟨f0, f1, f2⟩ := f3
  clear d0 d1 d2
  obtain ⟨d0, d1, d2⟩ := HL3.out.all
  simp only at d0 d1 d2
  clear hv hR3 hx3 hx3A hcs hw4
  go_wp2_with fail
  rw [HW4.out]
  cases hR : Rw.right r with
  | false =>
    have HR : Hid (Rw.right r = false) := hR
    clear hR
    refine (f_right ⟨r.t, r.q, p, r.c.length, c⟩ r _ ⟨rfl, rfl, rfl, HR4.out⟩ HOk.out false HR.out).mono ?_
    rintro e w5 ⟨rfl, hx5⟩
    go_wp2_with fail
    refine (known_any _).mono ?_
    rintro e w6 ⟨rfl, hx6⟩
    go_wp2_with fail
    go_ret
    exact ⟨rfl, (HX4.out.trans hx5).trans hx6⟩
  | true =>
    have HR : Hid (Rw.right r = true) := hR
    have HRise : Hid (T.Rise (r.c.map Ce.col)) := ((Rw.right_iff r).1 hR).2.2
    clear hR
    refine (f_right ⟨r.t, r.q, p, r.c.length, c⟩ r _ ⟨rfl, rfl, rfl, HR4.out⟩ HOk.out true HR.out).mono ?_
    rintro e w5 ⟨rfl, hx5⟩
    have HX5 : Hid (Ex w w5) := HX4.out.trans hx5
    have HL5 : Hid (LAt w5 w.heap.size ⟨r.t, r.q, p, r.c.length, c⟩) := HL4.out.below hx5
    have HR5 : Hid (RdC w5 p c r.c) := HR4.out.below hx5
    clear hx5 d0 d1 d2 e0 e1 e2 f0 f1 f2
    go_wp2_with fail
    go_loopw [7, 8] (fun h i wr => ∃ (j : Nat) (hb : Bool), j ≤ r.c.length ∧ h = .bool hb ∧ i = .int .i64 j ∧ Hid (hb = true ↔ ∃ m d, m < j ∧ r.c[m]? = some d ∧ d.col = s2) ∧ Hid (Ex w5 wr)) (fun h i wr => r.c.length - (intOf i).toNat)
    case atStart => exact ⟨0, false, by omega, rfl, rfl, (by simp : false = true ↔ ∃ m d, m < 0 ∧ r.c[m]? = some d ∧ d.col = s2), Ex.refl _⟩
    case round =>
      obtain ⟨j, hb, hj, rfl, rfl, HHb, HXr⟩ := hrel
      obtain ⟨d0, d1, d2⟩ := (HL5.out.below HXr.out).all
      simp only at d0 d1 d2
      by_cases hlt : j < r.c.length
      · have tj : decide ((j : Int) < (r.c.length : Int)) = true := by simp; omega
        obtain ⟨d, hd⟩ : ∃ d, r.c[j] = d := ⟨_, rfl⟩
        have hdj : r.c[j]? = some d := by rw [List.getElem?_eq_getElem hlt, hd]
        have HDj : Hid (r.c[j]? = some d) := hdj
        have HSd : Hid (d.col.length ≤ 20 ∧ d.s.length ≤ 41) := HSm.out d (List.mem_of_getElem? hdj)
        obtain ⟨b, off, hpb, k0, k1, k2, k3⟩ := RdC.four (RdW.below HR5.out HXr.out) hlt
        subst hpb
        rw [hd] at k0 k1 k2 k3
        have HK : Hid (wr.cell? ⟨b, off + j * 4, none⟩ = some (.string (str d.col)) ∧ wr.cell? ⟨b, off + j * 4 + 1, none⟩ = some (.int .i64 d.k) ∧ wr.cell? ⟨b, off + j * 4 + 2, none⟩ = some (.int .i64 d.n) ∧ wr.cell? ⟨b, off + j * 4 + 3, none⟩ = some (.string (str d.s))) := (⟨k0, k1, k2, k3⟩ : _ ∧ _ ∧ _ ∧ _)
        have HCe : Hid (Rw.cell r.c d.col = d) := Rw.cell_in HRise.out hdj
        clear hd hdj k1 k2 k3
        go_wp2_with fail
        have hre := Ex.refl
        have hcel : ∀ wx, Ex wr wx → Calls Try.prog 22 #[rvv ⟨r.t, r.q, some ⟨b, off, none⟩, r.c.length, c⟩, .string (str d.col)] wx fun e w' => e = .returned (cv d) ∧ Ex wx w' := fun wx hC => f_cell ⟨r.t, r.q, some ⟨b, off, none⟩, r.c.length, c⟩ r d.col wx ⟨rfl, rfl, rfl, RdW.below (RdW.below HR5.out HXr.out) hC⟩ HOk.out (by have := HSd.out.1; unfold maxLen; omega) d HCe.out
        refine Rg.wp_rows [.inl (rvv ⟨r.t, r.q, some ⟨b, off, none⟩, r.c.length, c⟩), .inl (Value.pointer (some ⟨w.heap.size, 2, none⟩)), .inl (Value.slice (some ⟨b, off, none⟩) r.c.length c), .inl (Value.int .i64 j), .inl (Value.pointer (some ⟨b, off + j * 4, none⟩)), .inl (Value.pointer (some ⟨b, off + j * 4, none⟩)), .inl (Value.string (str d.col)), .inl (cv d), .inl (Value.pointer (some ⟨w.heap.size, 2, none⟩)), .inl (Value.slice (some ⟨b, off, none⟩) r.c.length c), .inl (Value.int .i64 j), .inl (Value.pointer (some ⟨b, off + j * 4, none⟩)), .inl (cv d), .inl (Value.bool false)] (Ex wr) Ex 127 (by kernel_rfl) rfl (by kernel_rfl) ?st hre (Ex.drew _) ?goods ?fin
        case st => exact trivial
        case goods =>
          refine Rg.goods_cons (Rg.good_load hre rfl rfl rfl (fun wx hC => loadI_row (cell_ex d0 hC) (cell_ex d1 hC) (cell_ex d2 hC))) ?_
          refine Rg.goods_cons (Rg.good_field hre rfl rfl rfl (fun wx hC => by go_simp)) ?_
          refine Rg.goods_cons (Rg.good_load hre rfl rfl rfl (fun wx hC => by have hz := cell_ex d2 hC; go_simp)) ?_
          refine Rg.goods_cons (Rg.good_move hre rfl rfl rfl) ?_
          refine Rg.goods_cons (Rg.good_index hre rfl rfl rfl rfl (fun wx hC => by go_simp)) ?_
          refine Rg.goods_cons (Rg.good_field hre rfl rfl rfl (fun wx hC => by go_simp)) ?_
          refine Rg.goods_cons (Rg.good_load hre rfl rfl rfl (fun wx hC => by have hz := cell_ex HK.out.1 hC; go_simp)) ?_
          refine Rg.goods_cons (Rg.good_call2 Try.func22 (by kernel_rfl) rfl rfl rfl (by rintro u u2 wx hC rfl rfl; exact ex_row (hcel wx hC) hC)) ?_
          refine Rg.goods_cons (Rg.good_field hre rfl rfl rfl (fun wx hC => by go_simp)) ?_
          refine Rg.goods_cons (Rg.good_load hre rfl rfl rfl (fun wx hC => by have hz := cell_ex d2 hC; go_simp)) ?_
          refine Rg.goods_cons (Rg.good_move hre rfl rfl rfl) ?_
          refine Rg.goods_cons (Rg.good_index hre rfl rfl rfl rfl (fun wx hC => by go_simp)) ?_
          refine Rg.goods_cons (Rg.good_load hre rfl rfl rfl (fun wx hC => loadI_cell (cell_ex HK.out.1 hC) (cell_ex HK.out.2.1 hC) (cell_ex HK.out.2.2.1 hC) (cell_ex HK.out.2.2.2 hC))) ?_
          refine Rg.goods_cons (Rg.good_bin hre rfl rfl rfl rfl (fun wx => guard_cell _ _ _ d d wx) (fun wx => neq_cell d d false (by simp) wx)) ?_
          exact Rg.goods_nil
        case fin =>
          intro wx hx
          simp only [Rg.later, Act.put, List.setIfInBounds_toArray, List.set_cons_succ, List.set_cons_zero]
          have HXx : Hid (Ex w5 wx) := HXr.out.trans hx
          have k0x := cell_ex k0 hx
          have d2x := cell_ex d2 hx
          clear hx k0 d0 d1 d2
          cases hb with
          | true =>
            have HHb' : Hid (true = true ↔ ∃ m d, m < j + 1 ∧ r.c[m]? = some d ∧ d.col = s2) := (⟨fun _ => by
              obtain ⟨m, d, h1, h2⟩ := HHb.out.1 rfl
              exact ⟨m, d, by omega, h2⟩, fun _ => rfl⟩ : true = true ↔ ∃ m d, m < j + 1 ∧ r.c[m]? = some d ∧ d.col = s2)
            go_wp2_with fail
            go_roundw
            case rel => exact ⟨j + 1, true, by omega, rfl, by go_num, HHb', HXx⟩
            case measure => simp [intOf]; omega
          | false =>
            obtain ⟨z, hz⟩ : ∃ z, decide (d.col = s2) = z := ⟨_, rfl⟩
            have HHb' : Hid (z = true ↔ ∃ m d, m < j + 1 ∧ r.c[m]? = some d ∧ d.col = s2) := (⟨fun h => ⟨j, d, by omega, HDj.out, by rw [← hz] at h; simpa using h⟩, fun ⟨m, d', h1, h2, h3⟩ => by
              by_cases e : m = j
              · subst e
                rw [HDj.out] at h2
                cases h2
                rw [← hz]; simpa using h3
              · have := HHb.out.2 ⟨m, d', by omega, h2, h3⟩
                cases this⟩ : z = true ↔ ∃ m d, m < j + 1 ∧ r.c[m]? = some d ∧ d.col = s2)
            have HZ : Hid (decide (d.col = s2) = z) := hz
            clear hz
            go_wp2_with fail
            refine ⟨⟨j + 1, z, by omega, ?_, by go_num, HHb', HXx⟩, by simp [intOf]; omega⟩
            simp only [str_toList]
            rw [← HZ.out]
            congr 1
            rw [Bool.eq_iff_iff]
            simp
      · obtain rfl : j = r.c.length := by omega
        have tj : decide ((r.c.length : Int) < (r.c.length : Int)) = false := by simp
        obtain ⟨X, hX⟩ : ∃ X, Rw.cell r.c s2 = X := ⟨_, rfl⟩
        have HX : Hid (Rw.cell r.c s2 = X) := hX
        have HNe : Hid (hb = true ↔ ¬ X = Rw.none_) := (by
          rw [← hX, ← ne_eq, Rw.cell_had HR.out, HHb.out]
          constructor
          · rintro ⟨m, d, _, h2, h3⟩; exact ⟨d, List.mem_of_getElem? h2, h3⟩
          · rintro ⟨d, h2, h3⟩
            obtain ⟨m, hm⟩ := List.getElem?_of_mem h2
            exact ⟨m, d, (List.getElem?_eq_some_iff.1 hm).1, hm, h3⟩ : hb = true ↔ ¬ X = Rw.none_)
        have hneq : ∀ wx, (binOp .neq 25 (cv X) (.agg #[.string ⟨#[]⟩, .int .i64 0, .int .i64 0, .string ⟨#[]⟩])).run Try.prog wx = .ok (.bool hb) wx := fun wx => neq_cell X Rw.none_ hb HNe.out wx
        have hgrd : ∀ wx, (eqGuard .neq 25 (.tmp 55) (.tmp 56) (cv X) (.agg #[.string ⟨#[]⟩, .int .i64 0, .int .i64 0, .string ⟨#[]⟩])).run Try.prog wx = .ok () wx := fun wx => guard_cell _ _ _ X Rw.none_ wx
        have hbb : ∀ x : Bool, (x != x) = false := fun x => by simp
        clear hX
        go_wp2_with fail
        refine (f_cell ⟨r.t, r.q, p, r.c.length, c⟩ r s2 _ ⟨rfl, rfl, rfl, RdW.below HR5.out HXr.out⟩ HOk.out (by unfold maxLen; omega) X HX.out).mono ?_
        rintro e w7 ⟨rfl, hx7⟩
        have HX7 : Hid (Ex w5 w7) := HXr.out.trans hx7
        clear hx7 d0 d1 d2
        obtain ⟨d0, d1, d2⟩ := (HL5.out.below HX7.out).all
        simp only at d0 d1 d2
        obtain ⟨n, hn⟩ : ∃ n, n = r.c.length := ⟨_, rfl⟩
        have HN : Hid (n = r.c.length) := hn
        rw [← hn] at d2 hcb hrl ⊢
        clear hn tj
        by_cases hz : n = 0
        · subst hz
          go_wp2_with fail
          refine (known_any _).mono ?_
          rintro e w8 ⟨rfl, hx8⟩
          go_wp2_with fail
          go_ret
          exact ⟨rfl, (HX5.out.trans HX7.out).trans hx8⟩
        · have tz : ((n : Int) == 0) = false := by simp; omega
          go_wp2_with fail
          refine (within_any a1 _ _ w1.1 w1.2 (by omega) (by omega)).mono ?_
          rintro e wq ⟨k, hk, rfl, hw⟩
          have hw' := hw.symm; clear hw; subst hw'
          have hkn : k < n := by omega
          have hkr : k < r.c.length := by rw [← HN.out]; exact hkn
          obtain ⟨b, off, hpb, _⟩ := RdC.four (RdW.below HR5.out HX7.out) hkr
          subst hpb
          obtain ⟨d, hd⟩ : ∃ d, r.c[k] = d := ⟨_, rfl⟩
          have hdk : r.c[k]? = some d := by rw [List.getElem?_eq_getElem hkr, hd]
          have HDk : Hid (r.c[k]? = some d) := hdk
          have HSd : Hid (d.col.length ≤ 20 ∧ d.s.length ≤ 41) := HSm.out d (List.mem_of_getElem? hdk)
          have HDe : Hid (r.c[k]'hkr = d) := hd
          obtain ⟨wl, hwl⟩ : ∃ wl, w7.alloc (Obj.cells #[Value.int IntKind.i64 r.t, Value.int IntKind.i64 r.q, Value.slice (some ⟨b, off, none⟩) n c] 28) = wl := ⟨_, rfl⟩
          have HWl : Hid (w7.alloc (Obj.cells #[Value.int IntKind.i64 r.t, Value.int IntKind.i64 r.q, Value.slice (some ⟨b, off, none⟩) n c] 28) = wl) := hwl
          have hx7l : Ex w7 wl := by rw [← hwl]; exact (Below.refl _ _).alloc (Nat.le_refl _) _
          have HXl : Hid (Ex w5 wl) := HX7.out.trans hx7l
          have HLl : Hid (LAt wl w7.heap.size ⟨r.t, r.q, some ⟨b, off, none⟩, n, c⟩) := (by rw [← hwl]; exact LAt.new w7 ⟨r.t, r.q, some ⟨b, off, none⟩, n, c⟩ : LAt wl w7.heap.size ⟨r.t, r.q, some ⟨b, off, none⟩, n, c⟩)
          have HRl : Hid (RdC wl (some ⟨b, off, none⟩) c r.c) := RdW.below HR5.out HXl.out
          have HL5l : Hid (LAt wl w.heap.size ⟨r.t, r.q, some ⟨b, off, none⟩, r.c.length, c⟩) := HL5.out.below HXl.out
          have hkl1 : (k : Int) ≤ (n : Int) := by omega
          have hkl2 : (k : Int) ≤ (c : Int) := by omega
          clear hd hdk hwl hx7l hk
          go_wp2_with fail
          rw [HWl.out]
          clear d0 d1 d2
          obtain ⟨d0, d1, d2⟩ := HL5l.out.all
          simp only at d0 d1 d2
          rw [← HN.out] at d2
          obtain ⟨z1, z2, z3⟩ := HLl.out.all
          simp only at z1 z2 z3
          have hcm : c ≤ 9223372036854775807 := by omega
          obtain ⟨a', hlo, hlr⟩ := lo23 (some ⟨b, off, none⟩) n c (k + 1) (by omega) (by omega) hcm
          have HLo : Hid (∀ w, (Instr.sliceAt 23 (.slice (some ⟨b, off, none⟩) n c) (some (.int .i64 ((k + 1 : Nat) : Int))) none none).run Try.prog w = .ok (.slice a' (n - (k + 1)) (c - (k + 1))) w) := hlo
          have hdr : RdW 4 cc wl a' (c - (k + 1)) (r.c.drop (k + 1)) := hlr wl r.c HN.out.symm HRl.out
          have HDr : Hid (RdW 4 cc wl a' (c - (k + 1)) (r.c.drop (k + 1))) := hdr
          have HTk : Hid (RdW 4 cc wl (some ⟨b, off, none⟩) c (r.c.take k)) := RdW.take HRl.out k
          clear hlo hlr hdr
          refine Rg.Fr.wp_chain (t := 25) (k := 4) (fl := cc) cc_len cc_one 23 _ 48 Try.underlying23 Try.info25 (by omega) rfl (by omega) (List.take 13 _) (List.drop 13 _) (List.take_append_drop 13 _).symm
            [(0, 72, []), (5, 77, r.c.take k), (11, 83, r.c.take k ++ r.c.drop (k + 1))] [] 127 (by kernel_rfl) rfl (by kernel_rfl) (by kernel_rfl) (by kernel_rfl) (by decide) (by kernel_rfl) (by kernel_rfl) (by show [0, 5, 11].Nodup; decide) (by show [72, 77, 83].Nodup; decide) (by show ∀ d ∈ [72, 77, 83], d < 127; decide)
            [Rg.Fr.T2, .inl (Value.pointer (some ⟨w.heap.size, 2, none⟩)), .inl (Value.slice (some ⟨b, off, none⟩) n c), .inl (Value.int .i64 (k : Int)), .inl (Value.slice (some ⟨b, off, none⟩) k c), Rg.Fr.T2, .inl (Value.pointer (some ⟨w.heap.size, 2, none⟩)), .inl (Value.slice (some ⟨b, off, none⟩) n c), .inl (Value.int .i64 (k : Int)), .inl (Value.int .i64 ((k + 1 : Nat) : Int)), .inl (Value.slice a' (n - (k + 1)) (c - (k + 1))), Rg.Fr.T2, .inl (Value.pointer (some ⟨w7.heap.size, 2, none⟩))]
            ⟨fun _ _ _ _ _ => trivial, fun _ _ _ _ _ => trivial, fun _ _ _ _ _ => trivial, trivial⟩ ?hT ?hlen (0, 72, []) rfl rfl _ rfl rfl ?rE ?hL ?hls ?hdst ?hQ (11, 83, r.c.take k ++ r.c.drop (k + 1)) rfl ?hF
          case hT =>
            intro i hi
            simp only [Rg.Fr.idxs, List.map_cons, List.map_nil, List.append_nil, List.mem_cons, List.not_mem_nil, or_false] at hi
            rcases hi with rfl | rfl | rfl <;> rfl
          case hlen =>
            intro q hq
            have hn' := HN.out
            simp only [List.mem_cons, List.not_mem_nil, or_false] at hq
            rcases hq with rfl | rfl | rfl <;> simp <;> omega
          case rE => intro ρ w'; simp [execOp, go_sem]
          case hL =>
            intro j q q' h1 h2
            have hn' := HN.out
            rcases j with _ | _ | j
            · simp only [List.getElem?_cons_zero, List.getElem?_cons_succ, Option.some.injEq] at h1 h2
              subst h1
              subst h2
              exact ⟨_, 76, rfl, rfl, rfl, by kernel_rfl, .inl ⟨_, _, _, r.c.take k, rfl, by simp; omega, HTk.out, by simp⟩⟩
            · simp only [List.getElem?_cons_zero, List.getElem?_cons_succ, Option.some.injEq] at h1 h2
              subst h1
              subst h2
              exact ⟨_, 82, rfl, rfl, rfl, by kernel_rfl, .inl ⟨_, _, _, r.c.drop (k + 1), rfl, by simp; omega, HDr.out, rfl⟩⟩
            · simp at h2
          case hls => intro q hq; simp at hq
          case hdst =>
            intro i1 o1 ho1 hsp
            simp only [Rg.Fr.idxs, Rg.Fr.dsts, List.map_cons, List.map_nil, List.append_nil] at hsp ⊢
            rcases i1 with _ | _ | _ | _ | _ | _ | _ | _ | _ | _ | _ | _ | _ | _
            all_goals first | (exfalso; revert hsp; decide) | (exfalso; revert ho1; simp; done) | (obtain rfl := Option.some.inj ho1; decide)
          case hQ =>
            intro i1 o1 ho1 hsp ρ w1 hx1 ha
            simp only [Rg.Fr.idxs, List.map_cons, List.map_nil, List.append_nil] at hsp
            rcases i1 with _ | _ | _ | _ | _ | _ | _ | _ | _ | _ | _ | _ | _ | _
            all_goals first | (exfalso; revert hsp; decide) | (exfalso; clear ha; revert ho1; simp; done) | (obtain rfl := Option.some.inj ho1)
            · exact Rg.q_field rfl rfl rfl ha (by go_simp)
            · exact Rg.q_load rfl rfl rfl ha (by have hz := cell_ex d2 hx1; go_simp)
            · exact Rg.q_move rfl rfl ha
            · exact Rg.q_slice2 rfl rfl rfl rfl ha (by go_simp)
            · exact Rg.q_field rfl rfl rfl ha (by go_simp)
            · exact Rg.q_load rfl rfl rfl ha (by have hz := cell_ex d2 hx1; go_simp)
            · exact Rg.q_move rfl rfl ha
            · exact Rg.q_bin rfl rfl rfl rfl ha rfl (by go_simp; exact wi64r _ (by omega) (by omega))
            · exact Rg.q_slice1 rfl rfl rfl rfl ha (HLo.out w1)
            · exact Rg.q_field rfl rfl rfl ha (by go_simp)
          case hF =>
            intro w8 hx8
            simp only [Rg.later, List.take_succ_cons, List.take_zero, List.drop_succ_cons, List.drop_zero, Act.put, List.setIfInBounds_toArray, List.set_cons_succ, List.set_cons_zero]
            intro v0 _ v5 _ v11 _ v hv hown8
            have hvv : v11 = v := by simpa using hv
            subst hvv
            clear hv
            obtain ⟨L1, hL1⟩ : ∃ L1, r.c.take k ++ r.c.drop (k + 1) = L1 := ⟨_, rfl⟩
            have HL1 : Hid (r.c.take k ++ r.c.drop (k + 1) = L1) := hL1
            rw [hL1] at hown8
            obtain ⟨a8, c8, hv8, _⟩ := hown8.rd cc_len
            subst hv8
            have hlt7 : w7.heap.size < wl.heap.size := HLl.out.lt
            have HL8 : Hid (LAt w8 w7.heap.size ⟨r.t, r.q, some ⟨b, off, none⟩, n, c⟩) := HLl.out.below hx8
            obtain ⟨y0, y1, y2⟩ := HL8.out.all
            obtain ⟨g0, g1, g2⟩ := HL8.out.fro
            simp only at y0 y1 y2
            obtain ⟨w9, hw9⟩ : ∃ w9, w8.setCell ⟨w7.heap.size, 2, none⟩ (.slice a8 L1.length c8) = w9 := ⟨_, rfl⟩
            have HW9 : Hid (w8.setCell ⟨w7.heap.size, 2, none⟩ (.slice a8 L1.length c8) = w9) := hw9
            have hx7l : Ex w7 wl := by rw [← HWl.out]; exact (Below.refl _ _).alloc (Nat.le_refl _) _
            have HX79 : Hid (Ex w7 w9) := (by rw [← hw9]; exact Below.setCell (hx7l.trans hx8) (p := ⟨w7.heap.size, 2, none⟩) (Nat.le_refl _) _ : Ex w7 w9)
            have HLs : Hid (LAt w9 w7.heap.size ⟨r.t, r.q, a8, L1.length, c8⟩) := (by rw [← hw9]; exact HL8.out.set (k := 2) rfl : LAt w9 w7.heap.size ⟨r.t, r.q, a8, L1.length, c8⟩)
            have ho9 : OwnC w9 wl.heap.size (.slice a8 L1.length c8) L1 := by rw [← hw9]; exact OwnW.other hown8 hlt7
            obtain ⟨a9, c9, hv9, hr9⟩ := ho9.rd cc_len
            simp only [Value.slice.injEq] at hv9
            obtain ⟨rfl, _, rfl⟩ := hv9
            have HRs : Hid (RdC w9 a8 c8 L1) := hr9
            have HX9 : Hid (Ex w5 w9) := HX7.out.trans HX79.out
            have HR9 : Hid (RdC w9 (some ⟨b, off, none⟩) c r.c) := RdW.below HR5.out HX9.out
            have HL59 : Hid (LAt w9 w.heap.size ⟨r.t, r.q, some ⟨b, off, none⟩, r.c.length, c⟩) := HL5.out.below HX9.out
            obtain ⟨m0', m1', m2'⟩ := HL59.out.all
            simp only at m0' m1' m2'
            rw [← HN.out] at m2'
            clear hown8 hL1 hw9 hx7l ho9 hr9 d0 d1 d2 z1 z2 z3 hx8
            have n0' : (w8.setCell ⟨w7.heap.size, 2, none⟩ (.slice a8 L1.length c8)).cell? ⟨w.heap.size, 0, none⟩ = some (.int .i64 r.t) := by rw [HW9.out]; exact m0'
            have n1' : (w8.setCell ⟨w7.heap.size, 2, none⟩ (.slice a8 L1.length c8)).cell? ⟨w.heap.size, 1, none⟩ = some (.int .i64 r.q) := by rw [HW9.out]; exact m1'
            have n2' : (w8.setCell ⟨w7.heap.size, 2, none⟩ (.slice a8 L1.length c8)).cell? ⟨w.heap.size, 2, none⟩ = some (.slice (some ⟨b, off, none⟩) n c) := by rw [HW9.out]; exact m2'
            go_wp2
            rw [HW9.out]
            clear n0' n1' n2' y0 y1 y2 g0 g1 g2
            have hs9 : w9.heap.size = w8.heap.size := by rw [← HW9.out]; simp
            obtain ⟨wm, hwm⟩ : ∃ wm, w9.alloc (Obj.cells #[Value.int IntKind.i64 r.t, Value.int IntKind.i64 r.q, Value.slice (some ⟨b, off, none⟩) n c] 28) = wm := ⟨_, rfl⟩
            have hx9m : Ex w9 wm := by rw [← hwm]; exact (Below.refl _ _).alloc (Nat.le_refl _) _
            have HX9m : Hid (Ex w9 wm) := hx9m
            have HLm : Hid (LAt wm w8.heap.size ⟨r.t, r.q, some ⟨b, off, none⟩, n, c⟩) := (by rw [← hwm, ← hs9]; exact LAt.new w9 ⟨r.t, r.q, some ⟨b, off, none⟩, n, c⟩ : LAt wm w8.heap.size ⟨r.t, r.q, some ⟨b, off, none⟩, n, c⟩)
            have HRm : Hid (RdC wm (some ⟨b, off, none⟩) c r.c) := RdW.below HR9.out hx9m
            rw [hwm]
            have HS9 : Hid (w9.heap.size = w8.heap.size) := hs9
            obtain ⟨d0, d1, d2⟩ := (HL59.out.below hx9m).all
            simp only at d0 d1 d2
            rw [← HN.out] at d2
            obtain ⟨a2', hlo2, hlr2⟩ := lo23 (some ⟨b, off, none⟩) n c k (by omega) (by omega) hcm
            have HLo2 : Hid (∀ w, (Instr.sliceAt 23 (.slice (some ⟨b, off, none⟩) n c) (some (.int .i64 (k : Int))) none none).run Try.prog w = .ok (.slice a2' (n - k) (c - k)) w) := hlo2
            have hdr2 : RdW 4 cc wm a2' (c - k) (r.c.drop k) := hlr2 wm r.c HN.out.symm HRm.out
            have HDr2 : Hid (RdW 4 cc wm a2' (c - k) (r.c.drop k)) := hdr2
            have HTk2 : Hid (RdW 4 cc wm (some ⟨b, off, none⟩) c (r.c.take k)) := RdW.take HRm.out k
            obtain ⟨b', off', hpb, k0, k1, k2, k3⟩ := RdC.four HRm.out hkr
            simp only [Option.some.injEq, Addr.mk.injEq, and_true] at hpb
            obtain ⟨rfl, rfl⟩ := hpb
            rw [HDe.out] at k0 k1 k2 k3
            have HK : Hid (wm.cell? ⟨b, off + k * 4, none⟩ = some (.string (str d.col)) ∧ wm.cell? ⟨b, off + k * 4 + 1, none⟩ = some (.int .i64 d.k) ∧ wm.cell? ⟨b, off + k * 4 + 2, none⟩ = some (.int .i64 d.n) ∧ wm.cell? ⟨b, off + k * 4 + 3, none⟩ = some (.string (str d.s))) := (⟨k0, k1, k2, k3⟩ : _ ∧ _ ∧ _ ∧ _)
            clear hwm hx9m hs9 hlo2 hlr2 hdr2 k0 k1 k2 k3 m0' m1' m2'
            refine Rg.Fr.wp_chain (t := 25) (k := 4) (fl := cc) cc_len cc_one 23 _ 48 Try.underlying23 Try.info25 (by omega) rfl (by omega) (List.take 19 _) (List.drop 19 _) (List.take_append_drop 19 _).symm
              [(0, 86, []), (5, 91, r.c.take k), (12, 98, r.c.take k ++ [d]), (17, 103, r.c.take k ++ [d] ++ r.c.drop k)] [(11, 97, d)] 127 (by kernel_rfl) rfl (by kernel_rfl) (by kernel_rfl) (by kernel_rfl) (by decide) (by kernel_rfl) (by kernel_rfl) (by show [0, 5, 12, 17, 11].Nodup; decide) (by show [86, 91, 98, 103, 97].Nodup; decide) (by show ∀ d ∈ [86, 91, 98, 103, 97], d < 127; decide)
              [Rg.Fr.T2, .inl (Value.pointer (some ⟨w.heap.size, 2, none⟩)), .inl (Value.slice (some ⟨b, off, none⟩) n c), .inl (Value.int .i64 (k : Int)), .inl (Value.slice (some ⟨b, off, none⟩) k c), Rg.Fr.T2, .inl (Value.pointer (some ⟨w.heap.size, 2, none⟩)), .inl (Value.slice (some ⟨b, off, none⟩) n c), .inl (Value.int .i64 (k : Int)), .inl (Value.pointer (some ⟨b, off + k * 4, none⟩)), .inl (cv d), Rg.Fr.T2, Rg.Fr.T2, .inl (Value.pointer (some ⟨w.heap.size, 2, none⟩)), .inl (Value.slice (some ⟨b, off, none⟩) n c), .inl (Value.int .i64 (k : Int)), .inl (Value.slice a2' (n - k) (c - k)), Rg.Fr.T2, .inl (Value.pointer (some ⟨w8.heap.size, 2, none⟩))]
              ⟨fun _ _ _ _ _ => trivial, fun _ _ _ _ _ => trivial, fun _ _ _ _ _ => trivial, fun _ _ _ _ _ => trivial, fun _ _ _ _ _ => trivial, trivial⟩ ?hT ?hlen (0, 86, []) rfl rfl _ rfl rfl ?rE ?hL ?hls ?hdst ?hQ (17, 103, r.c.take k ++ [d] ++ r.c.drop k) rfl ?hF
            case hT =>
              intro i hi
              simp only [Rg.Fr.idxs, List.map_cons, List.map_nil, List.cons_append, List.nil_append, List.mem_cons, List.not_mem_nil, or_false] at hi
              rcases hi with rfl | rfl | rfl | rfl | rfl <;> rfl
            case hlen =>
              intro q hq
              have hn' := HN.out
              simp only [List.mem_cons, List.not_mem_nil, or_false] at hq
              rcases hq with rfl | rfl | rfl | rfl <;> simp <;> omega
            case rE => intro ρ w'; simp [execOp, go_sem]
            case hL =>
              intro j q q' h1 h2
              have hn' := HN.out
              rcases j with _ | _ | _ | j
              · simp only [List.getElem?_cons_zero, List.getElem?_cons_succ, Option.some.injEq] at h1 h2
                subst h1
                subst h2
                exact ⟨_, 90, rfl, rfl, rfl, by kernel_rfl, .inl ⟨_, _, _, r.c.take k, rfl, by simp; omega, HTk2.out, by simp⟩⟩
              · simp only [List.getElem?_cons_zero, List.getElem?_cons_succ, Option.some.injEq] at h1 h2
                subst h1
                subst h2
                exact ⟨_, 97, rfl, rfl, rfl, by kernel_rfl, .inr ⟨(11, 97, d), by simp, rfl, by kernel_rfl, rfl⟩⟩
              · simp only [List.getElem?_cons_zero, List.getElem?_cons_succ, Option.some.injEq] at h1 h2
                subst h1
                subst h2
                exact ⟨_, 102, rfl, rfl, rfl, by kernel_rfl, .inl ⟨_, _, _, r.c.drop k, rfl, by simp; omega, HDr2.out, rfl⟩⟩
              · simp at h2
            case hls =>
              intro q hq
              simp only [List.mem_cons, List.not_mem_nil, or_false] at hq
              subst hq
              refine ⟨_, rfl, rfl, fun ρ w' ha => ?_⟩
              have h1 := ha (.tmp 96) (by simp [Op.operands])
              have h2 : ρ (.tmp 96) = cv d := h1
              simp [execOp, h2, go_sem, cv, cc]
            case hdst =>
              intro i1 o1 ho1 hsp
              simp only [Rg.Fr.idxs, Rg.Fr.dsts, List.map_cons, List.map_nil, List.cons_append, List.nil_append] at hsp ⊢
              rcases i1 with _ | _ | _ | _ | _ | _ | _ | _ | _ | _ | _ | _ | _ | _ | _ | _ | _ | _ | _ | _
              all_goals first | (exfalso; revert hsp; decide) | (exfalso; revert ho1; simp; done) | (obtain rfl := Option.some.inj ho1; decide)
            case hQ =>
              intro i1 o1 ho1 hsp ρ w1 hx1 ha
              simp only [Rg.Fr.idxs, List.map_cons, List.map_nil, List.cons_append, List.nil_append] at hsp
              rcases i1 with _ | _ | _ | _ | _ | _ | _ | _ | _ | _ | _ | _ | _ | _ | _ | _ | _ | _ | _ | _
              all_goals first | (exfalso; revert hsp; decide) | (exfalso; clear ha; revert ho1; simp; done) | (obtain rfl := Option.some.inj ho1)
              · exact Rg.q_field rfl rfl rfl ha (by go_simp)
              · exact Rg.q_load rfl rfl rfl ha (by have hz := cell_ex d2 hx1; go_simp)
              · exact Rg.q_move rfl rfl ha
              · exact Rg.q_slice2 rfl rfl rfl rfl ha (by go_simp)
              · exact Rg.q_field rfl rfl rfl ha (by go_simp)
              · exact Rg.q_load rfl rfl rfl ha (by have hz := cell_ex d2 hx1; go_simp)
              · exact Rg.q_move rfl rfl ha
              · exact Rg.q_index rfl rfl rfl rfl ha (by go_simp)
              · exact Rg.q_load rfl rfl rfl ha (loadI_cell (cell_ex HK.out.1 hx1) (cell_ex HK.out.2.1 hx1) (cell_ex HK.out.2.2.1 hx1) (cell_ex HK.out.2.2.2 hx1))
              · exact Rg.q_field rfl rfl rfl ha (by go_simp)
              · exact Rg.q_load rfl rfl rfl ha (by have hz := cell_ex d2 hx1; go_simp)
              · exact Rg.q_move rfl rfl ha
              · exact Rg.q_slice1 rfl rfl rfl rfl ha (HLo2.out w1)
              · exact Rg.q_field rfl rfl rfl ha (by go_simp)
            case hF =>
              intro wn hxn
              simp only [Rg.later, List.take_succ_cons, List.take_zero, List.drop_succ_cons, List.drop_zero, Act.put, List.setIfInBounds_toArray, List.set_cons_succ, List.set_cons_zero]
              intro v0 _ v5 _ v11 _ v12 _ v17 _ v hv hownn
              have hvv : v17 = v := by simpa using hv
              subst hvv
              clear hv
              obtain ⟨L2, hL2⟩ : ∃ L2, r.c.take k ++ [d] ++ r.c.drop k = L2 := ⟨_, rfl⟩
              have HL2 : Hid (r.c.take k ++ [d] ++ r.c.drop k = L2) := hL2
              rw [hL2] at hownn
              obtain ⟨an, cn, hvn, _⟩ := hownn.rd cc_len
              subst hvn
              have hltm : w8.heap.size < wm.heap.size := HLm.out.lt
              have HLn : Hid (LAt wn w8.heap.size ⟨r.t, r.q, some ⟨b, off, none⟩, n, c⟩) := HLm.out.below hxn
              obtain ⟨y0, y1, y2⟩ := HLn.out.all
              obtain ⟨g0, g1, g2⟩ := HLn.out.fro
              simp only at y0 y1 y2
              obtain ⟨wo, hwo⟩ : ∃ wo, wn.setCell ⟨w8.heap.size, 2, none⟩ (.slice an L2.length cn) = wo := ⟨_, rfl⟩
              have HWo : Hid (wn.setCell ⟨w8.heap.size, 2, none⟩ (.slice an L2.length cn) = wo) := hwo
              have HX9o : Hid (Ex w9 wo) := (by rw [← hwo]; exact Below.setCell (HX9m.out.trans hxn) (p := ⟨w8.heap.size, 2, none⟩) (by simp only; have := HS9.out; omega) _ : Ex w9 wo)
              have HLo' : Hid (LAt wo w8.heap.size ⟨r.t, r.q, an, L2.length, cn⟩) := (by rw [← hwo]; exact HLn.out.set (k := 2) rfl : LAt wo w8.heap.size ⟨r.t, r.q, an, L2.length, cn⟩)
              have hoo : OwnC wo wm.heap.size (.slice an L2.length cn) L2 := by rw [← hwo]; exact OwnW.other hownn hltm
              obtain ⟨ao, co, hvo, hro⟩ := hoo.rd cc_len
              simp only [Value.slice.injEq] at hvo
              obtain ⟨rfl, _, rfl⟩ := hvo
              have HRo : Hid (RdC wo an cn L2) := hro
              have HLso : Hid (LAt wo w7.heap.size ⟨r.t, r.q, a8, L1.length, c8⟩) := HLs.out.below HX9o.out
              have HRso : Hid (RdC wo a8 c8 L1) := RdW.below HRs.out HX9o.out
              have HXo : Hid (Ex w5 wo) := HX9.out.trans HX9o.out
              clear hownn hL2 hwo hoo hro hxn
              go_wp2
              rw [HWo.out]
              have hmd : d ∈ r.c := List.mem_of_getElem? HDk.out
              have hok1 : RwOk ⟨r.t, r.q, L1⟩ := ⟨HOk.out.1, HOk.out.2.1, fun x hx => by
                rw [← HL1.out] at hx
                exact HOk.out.2.2 x ((Rw.sub_drop r.c k).subset hx)⟩
              have hok2 : RwOk ⟨r.t, r.q, L2⟩ := ⟨HOk.out.1, HOk.out.2.1, fun x hx => by
                rw [← HL2.out] at hx
                rcases List.mem_append.1 hx with hx | hx
                · rcases List.mem_append.1 hx with hx | hx
                  · exact HOk.out.2.2 x (List.mem_of_mem_take hx)
                  · rw [List.mem_singleton.1 hx]; exact HOk.out.2.2 d hmd
                · exact HOk.out.2.2 x (List.mem_of_mem_drop hx)⟩
              have hr1 : Rw.right ⟨r.t, r.q, L1⟩ = true := by rw [← HL1.out]; exact Rw.right_less HR.out k
              have hr2 : Rw.right ⟨r.t, r.q, L2⟩ = false := by
                have h := Rw.right_more (t := r.t) (q := r.q) hkr
                rw [HDe.out, HL2.out] at h
                exact h
              have hce : Rw.cell L1 d.col = Rw.none_ := by
                have h := Rw.cell_less (t := r.t) (q := r.q) HR.out hkr
                rw [HDe.out, HL1.out] at h
                exact h
              have HC1 : Hid (∀ wx, Ex wo wx → Calls Try.prog 14 #[rvv ⟨r.t, r.q, a8, L1.length, c8⟩] wx fun e w' => e = .returned (.bool true) ∧ Ex wx w') := (fun wx hC => f_right ⟨r.t, r.q, a8, L1.length, c8⟩ ⟨r.t, r.q, L1⟩ wx ⟨rfl, rfl, rfl, RdW.below HRso.out hC⟩ hok1 true hr1 : ∀ wx, Ex wo wx → Calls Try.prog 14 #[rvv ⟨r.t, r.q, a8, L1.length, c8⟩] wx fun e w' => e = .returned (.bool true) ∧ Ex wx w')
              have HC2 : Hid (∀ wx, Ex wo wx → Calls Try.prog 14 #[rvv ⟨r.t, r.q, an, L2.length, cn⟩] wx fun e w' => e = .returned (.bool false) ∧ Ex wx w') := (fun wx hC => f_right ⟨r.t, r.q, an, L2.length, cn⟩ ⟨r.t, r.q, L2⟩ wx ⟨rfl, rfl, rfl, RdW.below HRo.out hC⟩ hok2 false hr2 : ∀ wx, Ex wo wx → Calls Try.prog 14 #[rvv ⟨r.t, r.q, an, L2.length, cn⟩] wx fun e w' => e = .returned (.bool false) ∧ Ex wx w')
              have HC3 : Hid (∀ wx, Ex wo wx → Calls Try.prog 22 #[rvv ⟨r.t, r.q, a8, L1.length, c8⟩, .string (str d.col)] wx fun e w' => e = .returned (cv Rw.none_) ∧ Ex wx w') := (fun wx hC => f_cell ⟨r.t, r.q, a8, L1.length, c8⟩ ⟨r.t, r.q, L1⟩ d.col wx ⟨rfl, rfl, rfl, RdW.below HRso.out hC⟩ hok1 (by have := HSd.out.1; unfold maxLen; omega) Rw.none_ hce : ∀ wx, Ex wo wx → Calls Try.prog 22 #[rvv ⟨r.t, r.q, a8, L1.length, c8⟩, .string (str d.col)] wx fun e w' => e = .returned (cv Rw.none_) ∧ Ex wx w')
              obtain ⟨x0, x1, x2⟩ := HLso.out.all
              obtain ⟨j0, j1, j2⟩ := HLo'.out.all
              obtain ⟨u0', u1', u2'⟩ := (HL59.out.below HX9o.out).all
              simp only at x0 x1 x2 j0 j1 j2 u0' u1' u2'
              rw [← HN.out] at u2'
              have kd := cell_ex (cell_ex HK.out.1 (Ex.refl _)) (Ex.refl _)
              have HKd : Hid (wo.cell? ⟨b, off + k * 4, none⟩ = some (.string (str d.col))) := (by
                obtain ⟨b', off', hpb, k0, _⟩ := RdC.four (RdW.below HR9.out HX9o.out) hkr
                simp only [Option.some.injEq, Addr.mk.injEq, and_true] at hpb
                obtain ⟨rfl, rfl⟩ := hpb
                rw [HDe.out] at k0
                exact k0 : wo.cell? ⟨b, off + k * 4, none⟩ = some (.string (str d.col)))
              have hre := Ex.refl
              clear kd hok1 hok2 hr1 hr2 hce
              refine Rg.wp_rows [.inl (rvv ⟨r.t, r.q, a8, L1.length, c8⟩), .inl (.bool true), .inl (.bool true), .inl (rvv ⟨r.t, r.q, an, L2.length, cn⟩), .inl (.bool false), .inl (.bool true), .inl (.bool true), .inl (.bool true), .inl (rvv ⟨r.t, r.q, a8, L1.length, c8⟩), .inl (Value.pointer (some ⟨w.heap.size, 2, none⟩)), .inl (Value.slice (some ⟨b, off, none⟩) n c), .inl (Value.int .i64 k), .inl (Value.pointer (some ⟨b, off + k * 4, none⟩)), .inl (Value.pointer (some ⟨b, off + k * 4, none⟩)), .inl (Value.string (str d.col)), .inl (cv Rw.none_), .inl (cv Rw.none_), .inl (.bool true), .inl (.bool true), .inl (.bool true), .inl (.bool true), .inl (.bool true), .inl (.bool true)] (Ex wo) Ex 127 (by kernel_rfl) rfl (by kernel_rfl) ?st hre (Ex.drew _) ?goods ?fin
              case st => exact trivial
              case goods =>
                refine Rg.goods_cons (Rg.good_load hre rfl rfl rfl (fun wx hC => loadI_row (cell_ex x0 hC) (cell_ex x1 hC) (cell_ex x2 hC))) ?_
                refine Rg.goods_cons (Rg.good_call1 Try.func14 (by kernel_rfl) rfl rfl rfl (by rintro u wx hC rfl; exact ex_row (HC1.out wx hC) hC)) ?_
                refine Rg.goods_cons (Rg.good_move hre rfl rfl rfl) ?_
                refine Rg.goods_cons (Rg.good_load hre rfl rfl rfl (fun wx hC => loadI_row (cell_ex j0 hC) (cell_ex j1 hC) (cell_ex j2 hC))) ?_
                refine Rg.goods_cons (Rg.good_call1 Try.func14 (by kernel_rfl) rfl rfl rfl (by rintro u wx hC rfl; exact ex_row (HC2.out wx hC) hC)) ?_
                refine Rg.goods_cons (Rg.good_un hre rfl rfl rfl (fun w => by go_simp)) ?_
                refine Rg.goods_cons (Rg.good_pick true hre rfl rfl rfl rfl) ?_
                refine Rg.goods_cons (Rg.good_move hre rfl rfl rfl) ?_
                refine Rg.goods_cons (Rg.good_load hre rfl rfl rfl (fun wx hC => loadI_row (cell_ex x0 hC) (cell_ex x1 hC) (cell_ex x2 hC))) ?_
                refine Rg.goods_cons (Rg.good_field hre rfl rfl rfl (fun wx hC => by go_simp)) ?_
                refine Rg.goods_cons (Rg.good_load hre rfl rfl rfl (fun wx hC => by have hz := cell_ex u2' hC; go_simp)) ?_
                refine Rg.goods_cons (Rg.good_move hre rfl rfl rfl) ?_
                refine Rg.goods_cons (Rg.good_index hre rfl rfl rfl rfl (fun wx hC => by go_simp)) ?_
                refine Rg.goods_cons (Rg.good_field hre rfl rfl rfl (fun wx hC => by go_simp)) ?_
                refine Rg.goods_cons (Rg.good_load hre rfl rfl rfl (fun wx hC => by have hz := cell_ex HKd.out hC; go_simp)) ?_
                refine Rg.goods_cons (Rg.good_call2 Try.func22 (by kernel_rfl) rfl rfl rfl (by rintro u u2 wx hC rfl rfl; exact ex_row (HC3.out wx hC) hC)) ?_
                refine Rg.goods_cons (Rg.good_known hre rfl (fun _ => undef) (cv Rw.none_) (by simp) (fun x hx => by simp [Op.operands] at hx) (fun w hC => by simp [execOp, go_sem, cv, Rw.none_, str])) ?_
                refine Rg.goods_cons (Rg.good_bin hre rfl rfl rfl rfl (fun wx => guard_cell _ _ _ Rw.none_ Rw.none_ wx) (fun wx => eql_cell Rw.none_ Rw.none_ true (by simp) wx)) ?_
                refine Rg.goods_cons (Rg.good_pick true hre rfl rfl rfl rfl) ?_
                refine Rg.goods_cons (Rg.good_move hre rfl rfl rfl) ?_
                refine Rg.goods_cons (Rg.good_call0 Try.func23 (by kernel_rfl) rfl rfl rfl (by rintro wx hC; exact ex_row (known_any wx) hC)) ?_
                refine Rg.goods_cons (Rg.good_pick true hre rfl rfl rfl rfl) ?_
                refine Rg.goods_cons (Rg.good_assign hre rfl rfl rfl) ?_
                exact Rg.goods_nil
              case fin =>
                intro wx hx
                simp only [Rg.later, Act.put, List.setIfInBounds_toArray, List.set_cons_succ, List.set_cons_zero]
                go_wp2_with fail
                go_ret
                exact ⟨rfl, (HX5.out.trans HXo.out).trans hx⟩
end Go.Proofs.Ytghnbohplonhoaa.rowCells
