/-
  The walk of ChunkPicks.
-/
import Derived.Test.YtnmonoafjijfhaaGreatM52
import Derived.Deep.Cut
import Derived.Deep.DeepCutAuto
namespace Go.Proofs.YtnmonoafjijfhaaGreat.chunkPicks
open Go.RowKit Go.Proofs.YtnmonoafjijfhaaGreat
set_option linter.unusedVariables false
set_option linter.unusedSimpArgs false
/-- What is written over a cell that was picked. -/
def c9 : Ce := ⟨[], 9, 0, []⟩
/-- Cells of which the first i were written over. -/
def Qs (M : List Ce) (i : Nat) : List Ce := List.replicate i c9 ++ M.drop i
theorem qs_at {M : List Ce} {i : Nat} (h : i < M.length) : ∃ h2 : i < (Qs M i).length, (Qs M i)[i] = M[i] := by
  have h1 : (Qs M i)[i]? = some M[i] := by
    unfold Qs
    rw [List.getElem?_append_right (by simp)]
    simp [h]
  exact ⟨(List.getElem?_eq_some_iff.1 h1).1, (List.getElem?_eq_some_iff.1 h1).2⟩
theorem qs_set {M : List Ce} {i : Nat} (h : i < M.length) : (Qs M i).set i c9 = Qs M (i + 1) := by
  unfold Qs
  rw [List.set_append_right _ _ (by simp), List.length_replicate, Nat.sub_self, List.drop_eq_getElem_cons h, List.set_cons_zero, List.replicate_succ', List.append_assoc]
  rfl
set_option maxRecDepth 100000 in
set_option maxHeartbeats 8000000 in
theorem walk (a0 : Int) (p1 : Option Addr) (c1 : Nat) (l1 : List Ce) (a2 : Bool) (p3 : Option Addr) (c3 : Nat) (l3 : List Int) (w : World) (w0 : -9223372036854775808 ≤ a0 ∧ a0 ≤ 9223372036854775807) (b1 : RdC w p1 c1 l1) (m1 : ∀ c ∈ l1, In64 c.n ∧ c.s.length ≤ maxLen) (b3 : Rd z64 w p3 c3 l3) (m3 : ∀ x ∈ l3, In64 x) (w3 : l3.length ≤ 17592186043904) :
    Calls Tryz.prog 8 #[.int .i64 a0, .slice p1 l1.length c1, .bool a2, .slice p3 l3.length c3] w fun e w' => e = .returned (.bool true) ∧ Below w.heap.size w w' := by
  have HB1 : Hid (RdC w p1 c1 l1) := b1
  have HM1 : Hid (∀ c ∈ l1, In64 c.n ∧ c.s.length ≤ maxLen) := m1
  have HB3 : Hid (Rd z64 w p3 c3 l3) := b3
  have HM3 : Hid (∀ x ∈ l3, In64 x) := m3
  obtain ⟨n1, hn1⟩ : ∃ n, l1.length = n := ⟨_, rfl⟩
  obtain ⟨n3, hn3⟩ : ∃ n, l3.length = n := ⟨_, rfl⟩
  have hc3 : n3 ≤ c3 := by have := b3.1; omega
  have hm3 := b3.2.1
  unfold maxLen at hm3
  rw [hn1, hn3]
  have HN1 : Hid (l1.length = n1) := hn1
  have HN3 : Hid (l3.length = n3) := hn3
  clear b1 m1 b3 m3 hn1 hn3 w3
  go_enter Tryz.func8, Tryz.ntmps8
  go_wp2_with fail
  refine (within_any a0 1 w w0.1 w0.2 (by omega) (by omega)).mono ?_
  rintro e0 w1 ⟨r, hr, rfl, rfl⟩
  clear w0
  obtain ⟨K, hK⟩ : ∃ K : Int, 1 + (r : Int) = K := ⟨_, rfl⟩
  have hk : K = 1 ∨ K = 2 := by omega
  have hwr : IntKind.i64.wrap (1 + (r : Int)) = K := by rw [IntKind.wrap_i64]; omega
  have hwk : IntKind.i64.wrap K = K := by rw [IntKind.wrap_i64]; omega
  have HK : Hid (K = 1 ∨ K = 2) := hk
  clear hk
  go_wp2_with fail
  clear hwr hwk hK hr
  refine (made_is K a2 p1 n1 c1 l1 w1 HK.out HN1.out.symm HB1.out HM1.out).mono ?_
  rintro e2 w2 ⟨v2, rfl, X, hoX, hXl, hXn, hx2⟩
  obtain ⟨ax, cx, rfl, hRX⟩ := hoX.rd cc_len
  obtain ⟨nX, hnX⟩ : ∃ n, X.length = n := ⟨_, rfl⟩
  rw [hnX]
  have HNX : Hid (X.length = nX) := hnX
  have HNmX : Hid (∀ c ∈ X, Nrm K c) := hXn
  have HRX : Hid (RdC w2 ax cx X) := hRX
  have HX2 : Hid (Ex w1 w2) := hx2
  have hnX6 : nX ≤ 60 := by omega
  clear hoX hXl hXn hRX hnX hx2
  obtain ⟨bx, ex, hbx⟩ : ∃ r e, Ck.encE K X = (r, e) := ⟨_, _, rfl⟩
  have HEx : Hid (Ck.encE K X = (bx, ex)) := hbx
  obtain ⟨rfl, hHX⟩ := Holds.of HK.out (by have := HNX.out; omega) HNmX.out hbx
  have HHX : Hid (Holds K X bx) := hHX
  clear hbx hHX
  go_wp2_with fail
  refine (encode_is K ax nX cx X w2 HNX.out.symm HRX.out (nrm_all HNmX.out).2.2 bx 0 HEx.out).mono ?_
  rintro e4 w4 ⟨v4, rfl, ho4, hx4⟩
  obtain ⟨ab, cb', rfl, hb4⟩ := ho4.byt
  obtain ⟨nb, hnb⟩ : ∃ n, bx.length = n := ⟨_, rfl⟩
  rw [hnb]
  have HNb : Hid (bx.length = nb) := hnb
  have hnb8 : nb ≤ 8000000 := by have := HHX.out.short; omega
  have HBx4 : Hid (Byt w4 ab cb' bx) := hb4
  have HOb4 : Hid (OwnR 5 n8 w4 w2.heap.size (.slice ab nb cb') bx) := (by rw [← hnb]; exact ho4 : OwnR 5 n8 w4 w2.heap.size (.slice ab nb cb') bx)
  have HRX4 : Hid (RdC w4 ax cx X) := HRX.out.below hx4
  have HX4 : Hid (Ex w1 w4) := HX2.out.trans hx4
  have HS4 : Hid (w2.heap.size ≤ w4.heap.size) := hx4.size
  clear ho4 hb4 hnb hx4
  go_wp2_with fail
  refine (open_is ab nb cb' bx w4 HNb.out.symm HBx4.out (by have := HHX.out.short; omega)).mono ?_
  rintro e6 w6 ⟨v6, rfl, hop, hx6⟩
  obtain ⟨g, fp, rfl, hok, hu, hg, hfp⟩ := hop.1 HHX.out.good
  have HOk : Hid (Ok bx) := hok
  have HX6 : Hid (Ex w1 w6) := HX4.out.trans hx6
  have HRX6 : Hid (RdC w6 ax cx X) := HRX4.out.below hx6
  have HOb6 : Hid (OwnR 5 n8 w6 w2.heap.size (.slice ab nb cb') bx) := HOb4.out.later hx6
  have HB36 : Hid (Rd z64 w6 p3 c3 l3) := HB3.out.below HX6.out
  have HPk : Hid (∀ A : List Int, Rd z64 w6 p3 c3 A → A.length ≤ n3 → PkC w1 w2.heap.size w4.heap.size none g bx ax cx X p3 c3 A w6) := (by
    intro A hA hAl
    have hs2 := HX2.out.size
    refine ⟨⟨fp, .inl hu, fun q hq => ⟨hfp q hq, by simp⟩⟩, HRX6.out, hA, HX6.out, ⟨hs2, HS4.out, hg, by simp⟩, fun h0 q off he => ?_, fun h0 q off he => ?_⟩
    · obtain ⟨q', off', he', f0, _⟩ := RdC.four HRX.out h0
      rw [he] at he'
      simp only [Option.some.injEq, Addr.mk.injEq, and_true] at he'
      have := World.block_lt_of_cell? _ _ f0
      simp only at this
      omega
    · obtain ⟨q', off', he', f0⟩ := HB3.out.at (k := 0) (by have := HN3.out; omega)
      rw [he] at he'
      simp only [Option.some.injEq, Addr.mk.injEq, and_true] at he'
      have := World.block_lt_of_cell? _ _ f0
      simp only at this
      omega : ∀ A : List Int, Rd z64 w6 p3 c3 A → A.length ≤ n3 → PkC w1 w2.heap.size w4.heap.size none g bx ax cx X p3 c3 A w6)
  clear hop hok hu hg hfp hx6
  go_upto_if 48 with fail
  go_cut [3] (fun v3 wc => ∃ (nA : Nat) (A : List Int), v3 = .slice p3 nA c3 ∧ nA ≤ 60 ∧ Hid (A.length = nA) ∧ Hid (PkC w1 w2.heap.size w4.heap.size none g bx ax cx X p3 c3 A wc) ∧ Hid (OwnR 5 n8 wc w2.heap.size (.slice ab nb cb') bx))
  case first =>
    by_cases h60 : 60 < n3
    · have t6 : (60 : Int) < (n3 : Int) := by omega
      have t7 : (60 : Int) ≤ (c3 : Int) := by omega
      have HA : Hid (PkC w1 w2.heap.size w4.heap.size none g bx ax cx X p3 c3 (l3.take 60) w6) := HPk.out _ (HB36.out.take 60) (by rw [List.length_take]; omega)
      have HL : Hid ((l3.take 60).length = 60) := (by rw [List.length_take, HN3.out]; omega : (l3.take 60).length = 60)
      go_wp2_with fail
      go_meet
      exact ⟨60, l3.take 60, rfl, by omega, HL, HA, HOb6⟩
    · have t6 : ¬ (60 : Int) < (n3 : Int) := by omega
      have HA : Hid (PkC w1 w2.heap.size w4.heap.size none g bx ax cx X p3 c3 l3 w6) := HPk.out _ HB36.out (by rw [HN3.out]; omega)
      go_wp2_with fail
      go_meet
      exact ⟨n3, l3, rfl, by omega, HN3, HA, HOb6⟩
  case rest =>
    obtain ⟨nA, A, rfl, hnA6, HLA, HPA, HOb⟩ := hcut
    clear HPk HOb6 HB36 HB3 HM3 hc3 hm3
    go_wp2_with fail
    go_loopw [14] (fun iv wr => ∃ (i : Nat) (L : List UInt8), i ≤ nb ∧ iv = .int .i64 (i : Int) ∧ Hid (L.length = nb) ∧ Hid (OwnR 5 n8 wr w2.heap.size (.slice ab nb cb') L) ∧ Hid (PkC w1 w2.heap.size w4.heap.size none g bx ax cx X p3 c3 A wr)) (fun iv wr => nb - (intOf iv).toNat)
    case atStart => exact ⟨0, bx, by omega, rfl, HNb, HOb, HPA⟩
    case round =>
      obtain ⟨i, L, hi, rfl, HLL, HOL, HPL⟩ := hrel
      by_cases hlt : i < nb
      · have ti : (i : Int) < (nb : Int) := by omega
        obtain ⟨q, cap, hv, hq1, hq2, _, _⟩ := OwnR.form HOL.out (by rw [HLL.out]; omega)
        simp only [Value.slice.injEq] at hv
        have hv1 := hv.1
        clear hv
        subst hv1
        have hlL : i < L.length := by rw [HLL.out]; exact hlt
        have hqB : q < w4.heap.size := (World.ownsRow.lt HOb4.out q rfl).2
        obtain ⟨V, hV⟩ : ∃ V, L[i].toNat = V := ⟨_, rfl⟩
        obtain ⟨Y, hY⟩ : ∃ Y, (L[i] + 1).toNat = Y := ⟨_, rfl⟩
        have hVY : Y = (V + 1) % 256 := by rw [← hY, ← hV, UInt8.toNat_add]; rfl
        have e0 : wr.cell? ⟨q, i, none⟩ = some (.int .u8 (V : Int)) := by have := OwnR.cell HOL.out HLL.out.symm hlL; rw [this, ← hV]
        have f0 : wr.frozen? ⟨q, i, none⟩ = false := OwnR.frozen i HOL.out HLL.out.symm
        have hvw : IntKind.u8.wrap ((V : Int) + 1) = (Y : Int) := by rw [IntKind.wrap_u8]; omega
        have HO9 : Hid (OwnR 5 n8 (wr.setCell ⟨q, i, none⟩ (.int .u8 (Y : Int))) w2.heap.size (.slice (some ⟨q, 0, none⟩) nb cb') (L.set i (L[i] + 1))) := OwnR.set HOL.out HLL.out.symm _ (by simp only [n8]; rw [hY])
        have HL9 : Hid ((L.set i (L[i] + 1)).length = nb) := (by rw [List.length_set]; exact HLL.out : (L.set i (L[i] + 1)).length = nb)
        have HP9 : Hid (PkC w1 w2.heap.size w4.heap.size none g bx ax cx X p3 c3 A (wr.setCell ⟨q, i, none⟩ (.int .u8 (Y : Int)))) := HPL.out.wrote (grown_set1 _ _ _ _) hq1 (.inl hqB)
        clear hY hV hVY HOL HLL HPL
        go_wp2_with fail
        go_roundw
        case rel => exact ⟨i + 1, _, by omega, by go_num, HL9, HO9, HP9⟩
        case measure => simp [intOf]; omega
      · have ti : ¬ (i : Int) < (nb : Int) := by omega
        clear HOL HLL HBx4 HOb4 HOb HRX HRX4 HRX6 HX2 HX4 HX6 HB1 HM1 HN3
        go_wp2_with fail
        rename World => wo1
        go_loopw [15, 16, 17, 18, 19, 20, 21] (fun kv _ _ _ _ _ _ wr => ∃ k : Nat, k ≤ 2 ∧ kv = .int .i64 (k : Int) ∧ Hid (PkC w1 w2.heap.size w4.heap.size none g bx ax cx X p3 c3 A wr)) (fun kv _ _ _ _ _ _ wr => 2 - (intOf kv).toNat)
        case atStart => exact ⟨0, by omega, rfl, HPL⟩
        case round =>
          clear HPL
          obtain ⟨k, hk2, rfl, HPk⟩ := hrel
          by_cases hlk : k < 2
          · have tk : (k : Int) < 2 := by omega
            go_wp2_with fail
            refine (HPk.out.pick HOk.out HLA.out.symm hnA6).mono ?_
            rintro e7 w7 ⟨hh, rfl, hP7, hR7, hBh⟩
            have HP7 : Hid (PkC w1 w2.heap.size w4.heap.size (some hh) g bx ax cx X p3 c3 A w7) := hP7
            have HR7 : Hid (CRow w7 hh (Qs (A.map (LA bx)) 0)) := (by unfold Qs; simpa using hR7 : CRow w7 hh (Qs (A.map (LA bx)) 0))
            have hSB := hP7.2.2.2.2.1.2.1
            clear hP7 hR7 HPk
            go_wp2_with fail
            rename World => wo2
            go_loopw [17, 18] (fun iv pv wr => ∃ i : Nat, i ≤ nA ∧ iv = .int .i64 (i : Int) ∧ Hid (CRow wr hh (Qs (A.map (LA bx)) i)) ∧ Hid (PkC w1 w2.heap.size w4.heap.size (some hh) g bx ax cx X p3 c3 A wr)) (fun iv pv wr => nA - (intOf iv).toNat)
            case atStart => exact ⟨0, by omega, rfl, HR7, HP7⟩
            case round =>
              clear HR7 HP7
              obtain ⟨i, hi, rfl, HRo, HPi⟩ := hrel
              by_cases hlt : i < nA
              · have ti : (i : Int) < (nA : Int) := by omega
                have hlA : i < A.length := by rw [HLA.out]; exact hlt
                obtain ⟨V, hV⟩ : ∃ V, A[i] = V := ⟨_, rfl⟩
                obtain ⟨bq, off, hp3, hc⟩ := HPi.out.2.2.1.at hlA
                have hc' : wr.cell? ⟨bq, off + i, none⟩ = some (.int .i64 V) := by rw [← hV]; exact hc
                have hbq := World.block_lt_of_cell? _ _ hc'
                have EA : ∀ o, (wr.alloc o).cell? ⟨bq, off + i, none⟩ = some (.int .i64 V) := fun o => by rw [World.cell?_alloc_past _ _ _ hbq]; exact hc'
                subst hp3
                have hM : i < (A.map (LA bx)).length := by rw [List.length_map]; exact hlA
                have hMd : (A.map (LA bx))[i] = LA bx V := by rw [List.getElem_map, hV]
                have HSh : Hid (w2.heap.size ≤ hh) := Nat.le_trans hSB hBh
                clear hV hc hlA
                have hnew : Ex wr (wr.alloc (cb Rw.none_)) := (Below.refl _ _).alloc (Nat.le_refl _) _
                have hcom : ∀ (d : Ce) (W8 : World), LA bx V = d → Ex wr W8 → EAt W8 wr.heap.size d → Hid (PkC w1 w2.heap.size w4.heap.size (some hh) g bx ax cx X (some ⟨bq, off, none⟩) c3 A W8 ∧ CRow W8 hh (Qs (A.map (LA bx)) i) ∧ EAt W8 wr.heap.size d) ∧ Hid (∃ h2 : i < (Qs (A.map (LA bx)) i).length, (Qs (A.map (LA bx)) i)[i] = d) := by
                  intro d W8 hd hx he
                  obtain ⟨h2, h3⟩ := qs_at hM
                  exact ⟨⟨HPi.out.below hx, HRo.out.below hx, he⟩, ⟨h2, by rw [h3, hMd, hd]⟩⟩
                have hset := qs_set hM
                have HSet : Hid ((Qs (A.map (LA bx)) i).set i c9 = Qs (A.map (LA bx)) (i + 1)) := hset
                clear hset hM hMd
                have hre : ∀ w : World, (fun (_ _ : World) => True) w w := fun _ => trivial
                by_cases hin : 0 ≤ V ∧ V < (nX : Int)
                · obtain ⟨hV0, hVX⟩ := hin
                  obtain ⟨j, rfl⟩ : ∃ j : Nat, V = j := ⟨V.toNat, by omega⟩
                  have hjX : j < X.length := by rw [HNX.out]; omega
                  have hla := HHX.out.at_ j hjX
                  obtain ⟨bx', offx, hax, x0, x1, x2, x3⟩ := RdC.four HPi.out.2.1 hjX
                  obtain ⟨d, hd⟩ : ∃ d, X[j] = d := ⟨_, rfl⟩
                  rw [hd] at x0 x1 x2 x3 hla
                  have hbx := World.block_lt_of_cell? _ _ x0
                  have E0 : ∀ o, (wr.alloc o).cell? ⟨bx', offx + j * 4, none⟩ = some (.string (str d.col)) := fun o => by rw [World.cell?_alloc_past _ _ _ hbx]; exact x0
                  have E1 : ∀ o, (wr.alloc o).cell? ⟨bx', offx + j * 4 + 1, none⟩ = some (.int .i64 d.k) := fun o => by rw [World.cell?_alloc_past _ _ _ hbx]; exact x1
                  have E2 : ∀ o, (wr.alloc o).cell? ⟨bx', offx + j * 4 + 2, none⟩ = some (.int .i64 d.n) := fun o => by rw [World.cell?_alloc_past _ _ _ hbx]; exact x2
                  have E3 : ∀ o, (wr.alloc o).cell? ⟨bx', offx + j * 4 + 3, none⟩ = some (.string (str d.s)) := fun o => by rw [World.cell?_alloc_past _ _ _ hbx]; exact x3
                  subst hax
                  obtain ⟨HC8, HQ⟩ := hcom d (wr.alloc (cb d)) hla ((Below.refl _ _).alloc (Nat.le_refl _) _) (EAt.new wr d)
                  clear hcom hd hla x0 x1 x2 x3 hbq hbx hc' hnew
                  go_wp2_with fail
                  refine Rg.wp_rows [.inl (.slice (some ⟨hh, 0, none⟩) nA nA), .inl (.int .i64 (i : Int)), .inl (.pointer (some ⟨hh, i * 4, none⟩)), .inl (cv d), .inl (cv d), .inl (.bool false)] (fun wx => PkC w1 w2.heap.size w4.heap.size (some hh) g bx (some ⟨bx', offx, none⟩) cx X (some ⟨bq, off, none⟩) c3 A wx ∧ CRow wx hh (Qs (A.map (LA bx)) i) ∧ EAt wx wr.heap.size d) (fun _ _ => True) 130 (by kernel_rfl) rfl (by kernel_rfl) ?st1 hre ⟨HC8.out.1.below (Ex.drew _), HC8.out.2.1.below (Ex.drew _), HC8.out.2.2.below (Ex.drew _)⟩ ?goods1 ?fin1
                  case st1 => exact trivial
                  case goods1 =>
                    refine Rg.goods_cons (Rg.good_move hre rfl rfl rfl) ?_
                    refine Rg.goods_cons (Rg.good_move hre rfl rfl rfl) ?_
                    refine Rg.goods_cons (Rg.good_index hre rfl rfl rfl rfl (fun wx hC => by go_simp)) ?_
                    refine Rg.goods_cons (Rg.good_load hre rfl rfl rfl (fun wx hC => by obtain ⟨hl, hq⟩ := HQ.out; have z := hC.2.1.four hl; rw [hq] at z; exact loadI_cell z.1 z.2.1 z.2.2.1 z.2.2.2)) ?_
                    refine Rg.goods_cons (Rg.good_load hre rfl rfl rfl (fun wx hC => by obtain ⟨z0, z1, z2, z3⟩ := hC.2.2.all; exact loadI_cell z0 z1 z2 z3)) ?_
                    refine Rg.goods_cons (Rg.good_bin hre rfl rfl rfl rfl (fun w => guard_cell _ _ _ d d w) (fun w => neq_cell d d false (by simp) w)) ?_
                    exact Rg.goods_nil
                  case fin1 =>
                    intro wz hz
                    have HPz : Hid (PkC w1 w2.heap.size w4.heap.size (some hh) g bx (some ⟨bx', offx, none⟩) cx X (some ⟨bq, off, none⟩) c3 A wz) := hz.1
                    have HRz : Hid (CRow wz hh (Qs (A.map (LA bx)) i)) := hz.2.1
                    obtain ⟨hl, hq⟩ := HQ.out
                    obtain ⟨z0, z1, z2, z3⟩ := HRz.out.four hl
                    rw [hq] at z0 z1 z2 z3
                    have f0 := HRz.out.fro (i * 4)
                    have f1 := HRz.out.fro (i * 4 + 1)
                    have f2 := HRz.out.fro (i * 4 + 2)
                    have f3 := HRz.out.fro (i * 4 + 3)
                    have HR9 : Hid (CRow (cset4 wz hh (i * 4) c9) hh (Qs (A.map (LA bx)) (i + 1))) := (by have h := HRz.out.set4 hl c9; rw [HSet.out] at h; exact h : CRow (cset4 wz hh (i * 4) c9) hh (Qs (A.map (LA bx)) (i + 1)))
                    have HP9 : Hid (PkC w1 w2.heap.size w4.heap.size (some hh) g bx (some ⟨bx', offx, none⟩) cx X (some ⟨bq, off, none⟩) c3 A (cset4 wz hh (i * 4) c9)) := HPz.out.wrote (grown_cset4 _ _ _ _) HSh.out (.inr rfl)
                    clear hz hre hl hq HPz HRz HC8 HQ HPi HRo
                    simp only [Rg.later, Act.put, List.setIfInBounds_toArray, List.set_cons_succ, List.set_cons_zero]
                    go_wp2_with fail
                    go_roundw
                    case rel => exact ⟨i + 1, by omega, by go_num, HR9, HP9⟩
                    case measure => simp [intOf]; omega
                · by_cases hV0 : 0 ≤ V
                  · have hVX : ¬ V < (nX : Int) := by omega
                    have hla : LA bx V = Rw.none_ := LA_out (.inr (by rw [HHX.out.cells, HNX.out]; omega))
                    obtain ⟨HC8, HQ⟩ := hcom Rw.none_ (wr.alloc (cb Rw.none_)) hla hnew (EAt.new wr Rw.none_)
                    clear hcom hla hin hbq hc' hnew
                    go_wp2_with fail
                    refine Rg.wp_rows [.inl (.slice (some ⟨hh, 0, none⟩) nA nA), .inl (.int .i64 (i : Int)), .inl (.pointer (some ⟨hh, i * 4, none⟩)), .inl (cv Rw.none_), .inl (cv Rw.none_), .inl (.bool false)] (fun wx => PkC w1 w2.heap.size w4.heap.size (some hh) g bx ax cx X (some ⟨bq, off, none⟩) c3 A wx ∧ CRow wx hh (Qs (A.map (LA bx)) i) ∧ EAt wx wr.heap.size Rw.none_) (fun _ _ => True) 130 (by kernel_rfl) rfl (by kernel_rfl) ?st2 hre ⟨HC8.out.1.below (Ex.drew _), HC8.out.2.1.below (Ex.drew _), HC8.out.2.2.below (Ex.drew _)⟩ ?goods2 ?fin2
                    case st2 => exact trivial
                    case goods2 =>
                      refine Rg.goods_cons (Rg.good_move hre rfl rfl rfl) ?_
                      refine Rg.goods_cons (Rg.good_move hre rfl rfl rfl) ?_
                      refine Rg.goods_cons (Rg.good_index hre rfl rfl rfl rfl (fun wx hC => by go_simp)) ?_
                      refine Rg.goods_cons (Rg.good_load hre rfl rfl rfl (fun wx hC => by obtain ⟨hl, hq⟩ := HQ.out; have z := hC.2.1.four hl; rw [hq] at z; exact loadI_cell z.1 z.2.1 z.2.2.1 z.2.2.2)) ?_
                      refine Rg.goods_cons (Rg.good_load hre rfl rfl rfl (fun wx hC => by obtain ⟨z0, z1, z2, z3⟩ := hC.2.2.all; exact loadI_cell z0 z1 z2 z3)) ?_
                      refine Rg.goods_cons (Rg.good_bin hre rfl rfl rfl rfl (fun w => guard_cell _ _ _ Rw.none_ Rw.none_ w) (fun w => neq_cell Rw.none_ Rw.none_ false (by simp) w)) ?_
                      exact Rg.goods_nil
                    case fin2 =>
                      intro wz hz
                      have HPz : Hid (PkC w1 w2.heap.size w4.heap.size (some hh) g bx ax cx X (some ⟨bq, off, none⟩) c3 A wz) := hz.1
                      have HRz : Hid (CRow wz hh (Qs (A.map (LA bx)) i)) := hz.2.1
                      obtain ⟨hl, hq⟩ := HQ.out
                      obtain ⟨z0, z1, z2, z3⟩ := HRz.out.four hl
                      rw [hq] at z0 z1 z2 z3
                      have f0 := HRz.out.fro (i * 4)
                      have f1 := HRz.out.fro (i * 4 + 1)
                      have f2 := HRz.out.fro (i * 4 + 2)
                      have f3 := HRz.out.fro (i * 4 + 3)
                      have HR9 : Hid (CRow (cset4 wz hh (i * 4) c9) hh (Qs (A.map (LA bx)) (i + 1))) := (by have h := HRz.out.set4 hl c9; rw [HSet.out] at h; exact h : CRow (cset4 wz hh (i * 4) c9) hh (Qs (A.map (LA bx)) (i + 1)))
                      have HP9 : Hid (PkC w1 w2.heap.size w4.heap.size (some hh) g bx ax cx X (some ⟨bq, off, none⟩) c3 A (cset4 wz hh (i * 4) c9)) := HPz.out.wrote (grown_cset4 _ _ _ _) HSh.out (.inr rfl)
                      clear hz hre hl hq HPz HRz HC8 HQ HPi HRo
                      simp only [Rg.later, Act.put, List.setIfInBounds_toArray, List.set_cons_succ, List.set_cons_zero]
                      go_wp2_with fail
                      go_roundw
                      case rel => exact ⟨i + 1, by omega, by go_num, HR9, HP9⟩
                      case measure => simp [intOf]; omega
                  · have hla : LA bx V = Rw.none_ := LA_out (.inl (by omega))
                    obtain ⟨HC8, HQ⟩ := hcom Rw.none_ (wr.alloc (cb Rw.none_)) hla hnew (EAt.new wr Rw.none_)
                    clear hcom hla hin hbq hc' hnew
                    go_wp2_with fail
                    refine Rg.wp_rows [.inl (.slice (some ⟨hh, 0, none⟩) nA nA), .inl (.int .i64 (i : Int)), .inl (.pointer (some ⟨hh, i * 4, none⟩)), .inl (cv Rw.none_), .inl (cv Rw.none_), .inl (.bool false)] (fun wx => PkC w1 w2.heap.size w4.heap.size (some hh) g bx ax cx X (some ⟨bq, off, none⟩) c3 A wx ∧ CRow wx hh (Qs (A.map (LA bx)) i) ∧ EAt wx wr.heap.size Rw.none_) (fun _ _ => True) 130 (by kernel_rfl) rfl (by kernel_rfl) ?st3 hre ⟨HC8.out.1.below (Ex.drew _), HC8.out.2.1.below (Ex.drew _), HC8.out.2.2.below (Ex.drew _)⟩ ?goods3 ?fin3
                    case st3 => exact trivial
                    case goods3 =>
                      refine Rg.goods_cons (Rg.good_move hre rfl rfl rfl) ?_
                      refine Rg.goods_cons (Rg.good_move hre rfl rfl rfl) ?_
                      refine Rg.goods_cons (Rg.good_index hre rfl rfl rfl rfl (fun wx hC => by go_simp)) ?_
                      refine Rg.goods_cons (Rg.good_load hre rfl rfl rfl (fun wx hC => by obtain ⟨hl, hq⟩ := HQ.out; have z := hC.2.1.four hl; rw [hq] at z; exact loadI_cell z.1 z.2.1 z.2.2.1 z.2.2.2)) ?_
                      refine Rg.goods_cons (Rg.good_load hre rfl rfl rfl (fun wx hC => by obtain ⟨z0, z1, z2, z3⟩ := hC.2.2.all; exact loadI_cell z0 z1 z2 z3)) ?_
                      refine Rg.goods_cons (Rg.good_bin hre rfl rfl rfl rfl (fun w => guard_cell _ _ _ Rw.none_ Rw.none_ w) (fun w => neq_cell Rw.none_ Rw.none_ false (by simp) w)) ?_
                      exact Rg.goods_nil
                    case fin3 =>
                      intro wz hz
                      have HPz : Hid (PkC w1 w2.heap.size w4.heap.size (some hh) g bx ax cx X (some ⟨bq, off, none⟩) c3 A wz) := hz.1
                      have HRz : Hid (CRow wz hh (Qs (A.map (LA bx)) i)) := hz.2.1
                      obtain ⟨hl, hq⟩ := HQ.out
                      obtain ⟨z0, z1, z2, z3⟩ := HRz.out.four hl
                      rw [hq] at z0 z1 z2 z3
                      have f0 := HRz.out.fro (i * 4)
                      have f1 := HRz.out.fro (i * 4 + 1)
                      have f2 := HRz.out.fro (i * 4 + 2)
                      have f3 := HRz.out.fro (i * 4 + 3)
                      have HR9 : Hid (CRow (cset4 wz hh (i * 4) c9) hh (Qs (A.map (LA bx)) (i + 1))) := (by have h := HRz.out.set4 hl c9; rw [HSet.out] at h; exact h : CRow (cset4 wz hh (i * 4) c9) hh (Qs (A.map (LA bx)) (i + 1)))
                      have HP9 : Hid (PkC w1 w2.heap.size w4.heap.size (some hh) g bx ax cx X (some ⟨bq, off, none⟩) c3 A (cset4 wz hh (i * 4) c9)) := HPz.out.wrote (grown_cset4 _ _ _ _) HSh.out (.inr rfl)
                      clear hz hre hl hq HPz HRz HC8 HQ HPi HRo
                      simp only [Rg.later, Act.put, List.setIfInBounds_toArray, List.set_cons_succ, List.set_cons_zero]
                      go_wp2_with fail
                      go_roundw
                      case rel => exact ⟨i + 1, by omega, by go_num, HR9, HP9⟩
                      case measure => simp [intOf]; omega
              · have ti : ¬ (i : Int) < (nA : Int) := by omega
                obtain ⟨rb, hrb⟩ : ∃ r, decide ((Ck.lread bx).f = 2) = r := ⟨_, rfl⟩
                have HRb : Hid (decide ((Ck.lread bx).f = 2) = rb) := hrb
                clear hrb HRo
                go_wp2_with fail
                refine (HPi.out.free.dict HOk.out rb HRb.out).mono ?_
                rintro e8 w8 ⟨v8, rfl, hP8, hO8⟩
                obtain ⟨ad, cd, rfl, hrd8⟩ := hO8.rd
                have hd1 := hrd8.1
                have hd2 := hrd8.2.1
                unfold maxLen at hd2
                clear hrd8
                obtain ⟨nd, hnd⟩ : ∃ nd, (LD bx).length = nd := ⟨_, rfl⟩
                rw [hnd] at hP8 hO8 hd1 ⊢
                have HND : Hid ((LD bx).length = nd) := hnd
                have HP8 : Hid (PkC w1 w2.heap.size w4.heap.size (Value.slice ad nd cd).ownBlock g bx ax cx X p3 c3 A w8) := hP8
                have HO8 : Hid (OwnR 9 st w8 w4.heap.size (.slice ad nd cd) (LD bx)) := hO8
                clear hP8 hO8 hnd HPi
                go_wp2_with fail
                rename World => wo3
                go_loopw [21] (fun jv wr => ∃ (j : Nat) (L : List (List UInt8)), j ≤ nd ∧ jv = .int .i64 (j : Int) ∧ Hid (L.length = nd) ∧ Hid (OwnR 9 st wr w4.heap.size (.slice ad nd cd) L) ∧ Hid (PkC w1 w2.heap.size w4.heap.size (Value.slice ad nd cd).ownBlock g bx ax cx X p3 c3 A wr)) (fun jv wr => nd - (intOf jv).toNat)
                case atStart => exact ⟨0, LD bx, by omega, rfl, HND, HO8, HP8⟩
                case round =>
                  clear HND HO8 HP8
                  obtain ⟨j, L, hj, rfl, HLj, HOj, HPj⟩ := hrel
                  by_cases hltj : j < nd
                  · have tj : (j : Int) < (nd : Int) := by omega
                    obtain ⟨q, cap, hv, hq1, hq2, _, _⟩ := OwnR.form HOj.out (by rw [HLj.out]; omega)
                    simp only [Value.slice.injEq] at hv
                    have hv1 := hv.1
                    clear hv
                    subst hv1
                    have hlL : j < L.length := by rw [HLj.out]; exact hltj
                    have e0 : wr.cell? ⟨q, j, none⟩ = some (.string (str L[j])) := OwnR.cell HOj.out HLj.out.symm hlL
                    have f0 : wr.frozen? ⟨q, j, none⟩ = false := OwnR.frozen j HOj.out HLj.out.symm
                    have HO9 : Hid (OwnR 9 st (wr.setCell ⟨q, j, none⟩ (.string { data := #[116, 117, 114, 110, 101, 100] })) w4.heap.size (.slice (some ⟨q, 0, none⟩) nd cd) (L.set j [116, 117, 114, 110, 101, 100])) := OwnR.set HOj.out HLj.out.symm _ rfl
                    have HL9 : Hid ((L.set j [116, 117, 114, 110, 101, 100]).length = nd) := (by rw [List.length_set]; exact HLj.out : (L.set j [116, 117, 114, 110, 101, 100]).length = nd)
                    have HP9 : Hid (PkC w1 w2.heap.size w4.heap.size (Value.slice (some ⟨q, 0, none⟩) nd cd).ownBlock g bx ax cx X p3 c3 A (wr.setCell ⟨q, j, none⟩ (.string { data := #[116, 117, 114, 110, 101, 100] }))) := HPj.out.wrote (grown_set1 _ _ _ _) (Nat.le_trans hSB hq1) (.inr rfl)
                    clear HOj HLj HPj
                    go_wp2_with fail
                    go_roundw
                    case rel => exact ⟨j + 1, _, by omega, by go_num, HL9, HO9, HP9⟩
                    case measure => simp [intOf]; omega
                  · have tj : ¬ (j : Int) < (nd : Int) := by omega
                    have HPe : Hid (PkC w1 w2.heap.size w4.heap.size none g bx ax cx X p3 c3 A wr) := HPj.out.free
                    clear HPj HOj HLj
                    go_wp2_with fail
                    go_roundw
                    case rel => exact ⟨k + 1, by omega, by go_num, HPe⟩
                    case measure => simp [intOf]; omega
          · have tk : ¬ (k : Int) < 2 := by omega
            go_wp2_with fail
            refine (known_is wr).mono ?_
            rintro ek wk ⟨rfl, hxk⟩
            go_wp2_with fail
            go_ret
            exact ⟨rfl, HPk.out.2.2.2.1.trans hxk⟩
end Go.Proofs.YtnmonoafjijfhaaGreat.chunkPicks
