/-
  The walk of ChunkBack.
-/
import Derived.Test.YtnmonoafjijfhaaGreatM50
namespace Go.Proofs.YtnmonoafjijfhaaGreat.chunkBack
open Go.RowKit Go.Proofs.YtnmonoafjijfhaaGreat
set_option linter.unusedVariables false
set_option linter.unusedSimpArgs false
set_option maxRecDepth 100000 in
set_option maxHeartbeats 8000000 in
theorem walk (a0 : Int) (p1 : Option Addr) (c1 : Nat) (l1 : List Ce) (p2 : Option Addr) (c2 : Nat) (l2 : List Ce) (a3 : Bool) (w : World) (w0 : -9223372036854775808 ≤ a0 ∧ a0 ≤ 9223372036854775807) (b1 : RdC w p1 c1 l1) (m1 : ∀ c ∈ l1, In64 c.n ∧ c.s.length ≤ maxLen) (b2 : RdC w p2 c2 l2) (m2 : ∀ c ∈ l2, In64 c.n ∧ c.s.length ≤ maxLen) :
    Calls Tryz.prog 6 #[.int .i64 a0, .slice p1 l1.length c1, .slice p2 l2.length c2, .bool a3] w fun e w' => e = .returned (.bool true) ∧ Below w.heap.size w w' := by
  have HB1 : Hid (RdC w p1 c1 l1) := b1
  have HB2 : Hid (RdC w p2 c2 l2) := b2
  have HM1 : Hid (∀ c ∈ l1, In64 c.n ∧ c.s.length ≤ maxLen) := m1
  have HM2 : Hid (∀ c ∈ l2, In64 c.n ∧ c.s.length ≤ maxLen) := m2
  obtain ⟨n1, hn1⟩ : ∃ n, l1.length = n := ⟨_, rfl⟩
  obtain ⟨n2, hn2⟩ : ∃ n, l2.length = n := ⟨_, rfl⟩
  rw [hn1, hn2]
  have HN1 : Hid (l1.length = n1) := hn1
  have HN2 : Hid (l2.length = n2) := hn2
  clear b1 b2 m1 m2 hn1 hn2
  go_enter Tryz.func6, Tryz.ntmps6
  go_wp2_with fail
  refine (within_any a0 1 w w0.1 w0.2 (by omega) (by omega)).mono ?_
  rintro e0 w1 ⟨r, hr, rfl, rfl⟩
  clear w0
  obtain ⟨K, hK⟩ : ∃ K : Int, 1 + (r : Int) = K := ⟨_, rfl⟩
  have hk : K = 1 ∨ K = 2 := by omega
  have hwr : IntKind.i64.wrap (1 + (r : Int)) = K := by rw [IntKind.wrap_i64]; omega
  have hwk : IntKind.i64.wrap K = K := by rw [IntKind.wrap_i64]; omega
  have HK : Hid (K = 1 ∨ K = 2) := hk
  clear hk
  go_wp2_with fail
  clear hwr hwk hK hr
  refine (made_is K a3 p1 n1 c1 l1 w1 HK.out HN1.out.symm HB1.out HM1.out).mono ?_
  rintro e2 w2 ⟨v2, rfl, X, hoX, hXl, hXn, hx2⟩
  obtain ⟨ax, cx, rfl, hRX⟩ := hoX.rd cc_len
  obtain ⟨nX, hnX⟩ : ∃ n, X.length = n := ⟨_, rfl⟩
  rw [hnX]
  have HNX : Hid (X.length = nX) := hnX
  have HNmX : Hid (∀ c ∈ X, Nrm K c) := hXn
  have HRX : Hid (RdC w2 ax cx X) := hRX
  have HX2 : Hid (Ex w1 w2) := hx2
  have hnX6 : nX ≤ 60 := by omega
  have HB22 : Hid (RdC w2 p2 c2 l2) := HB2.out.below hx2
  clear hoX hXl hXn hRX hnX hx2
  go_wp2_with fail
  refine (made_is K a3 p2 n2 c2 l2 w2 HK.out HN2.out.symm HB22.out HM2.out).mono ?_
  rintro e3 w3 ⟨v3, rfl, Y, hoY, hYl, hYn, hx3⟩
  obtain ⟨ay, cy, rfl, hRY⟩ := hoY.rd cc_len
  obtain ⟨nY, hnY⟩ : ∃ n, Y.length = n := ⟨_, rfl⟩
  rw [hnY]
  have HNY : Hid (Y.length = nY) := hnY
  have HNmY : Hid (∀ c ∈ Y, Nrm K c) := hYn
  have HRY : Hid (RdC w3 ay cy Y) := hRY
  have HRX3 : Hid (RdC w3 ax cx X) := HRX.out.below hx3
  have HX3 : Hid (Ex w1 w3) := HX2.out.trans hx3
  have hnY6 : nY ≤ 60 := by omega
  clear hoY hYl hYn hRY hnY hx3
  obtain ⟨bx, ex, hbx⟩ : ∃ r e, Ck.encE K X = (r, e) := ⟨_, _, rfl⟩
  obtain ⟨by', ey, hby⟩ : ∃ r e, Ck.encE K Y = (r, e) := ⟨_, _, rfl⟩
  have HEx : Hid (Ck.encE K X = (bx, ex)) := hbx
  have HEy : Hid (Ck.encE K Y = (by', ey)) := hby
  obtain ⟨rfl, hHX⟩ := Holds.of HK.out (by have := HNX.out; omega) HNmX.out hbx
  obtain ⟨rfl, hHY⟩ := Holds.of HK.out (by have := HNY.out; omega) HNmY.out hby
  have HHX : Hid (Holds K X bx) := hHX
  have HHY : Hid (Holds K Y by') := hHY
  clear hbx hby hHX hHY
  go_wp2_with fail
  refine (encode_is K ax nX cx X w3 HNX.out.symm HRX3.out (nrm_all HNmX.out).2.2 bx 0 HEx.out).mono ?_
  rintro e4 w4 ⟨v4, rfl, ho4, hx4⟩
  obtain ⟨ab, cb', rfl, hb4⟩ := ho4.byt
  obtain ⟨nb, hnb⟩ : ∃ n, bx.length = n := ⟨_, rfl⟩
  rw [hnb]
  have HNb : Hid (bx.length = nb) := hnb
  have HBx4 : Hid (Byt w4 ab cb' bx) := hb4
  have HRX4 : Hid (RdC w4 ax cx X) := HRX3.out.below hx4
  have HRY4 : Hid (RdC w4 ay cy Y) := HRY.out.below hx4
  have HX4 : Hid (Ex w1 w4) := HX3.out.trans hx4
  clear ho4 hb4 hnb hx4
  go_wp2_with fail
  refine (encode_is K ay nY cy Y w4 HNY.out.symm HRY4.out (nrm_all HNmY.out).2.2 by' 0 HEy.out).mono ?_
  rintro e5 w5 ⟨v5, rfl, ho5, hx5⟩
  obtain ⟨ad, cd', rfl, hb5⟩ := ho5.byt
  obtain ⟨nd, hnd⟩ : ∃ n, by'.length = n := ⟨_, rfl⟩
  rw [hnd]
  have HNd : Hid (by'.length = nd) := hnd
  have HBy5 : Hid (Byt w5 ad cd' by') := hb5
  have HBx5 : Hid (Byt w5 ab cb' bx) := HBx4.out.below hx5
  have HRX5 : Hid (RdC w5 ax cx X) := HRX4.out.below hx5
  have HRY5 : Hid (RdC w5 ay cy Y) := HRY4.out.below hx5
  have HX5 : Hid (Ex w1 w5) := HX4.out.trans hx5
  clear ho5 hb5 hnd hx5
  go_wp2_with fail
  refine (open_is ab nb cb' bx w5 HNb.out.symm HBx5.out (by have := HHX.out.short; omega)).mono ?_
  rintro e6 w6 ⟨v6, rfl, hop, hx6⟩
  obtain ⟨g, fp, rfl, hok, hu, hg, hfp⟩ := hop.1 HHX.out.good
  have HOk : Hid (Ok bx) := hok
  have HX6 : Hid (Ex w1 w6) := HX5.out.trans hx6
  have HBx6 : Hid (Byt w6 ab cb' bx) := HBx5.out.below hx6
  have HBy6 : Hid (Byt w6 ad cd' by') := HBy5.out.below hx6
  have HRY6 : Hid (RdC w6 ay cy Y) := HRY5.out.below hx6
  have HRX6 : Hid (RdC w6 ax cx X) := HRX5.out.below hx6
  have HC6 : Hid (BackC w1 g bx ax cx X w6) := (by
    have hs5 := HX5.out.size
    refine ⟨⟨fp, .inl hu, fun q hq => by have := hfp q hq; omega⟩, HRX6.out, HX6.out, by omega, fun h0 q off he => ?_⟩
    obtain ⟨q', off', he', f0, _⟩ := RdC.four HRX5.out h0
    rw [he] at he'
    simp only [Option.some.injEq, Addr.mk.injEq, and_true] at he'
    have := World.block_lt_of_cell? _ _ f0
    simp only at this
    omega : BackC w1 g bx ax cx X w6)
  have HLen : Hid ((LC bx).length = nX) := (by rw [HHX.out.cells]; exact HNX.out : (LC bx).length = nX)
  obtain ⟨z, hz⟩ : ∃ z : Bool, z = true ↔ bx = by' := ⟨decide (bx = by'), by simp⟩
  have HZ : Hid (z = true ↔ bx = by') := hz
  have HZc : Hid (z = true ↔ X = Y) := (hz.trans (HHX.out.inj HHY.out) : z = true ↔ X = Y)
  have HZs : Hid (((str bx).toList == (str by').toList) = z) := (by rw [str_toList, str_toList, Bool.eq_iff_iff, hz]; simp : ((str bx).toList == (str by').toList) = z)
  clear hop hok hu hg hfp hx6 hz
  go_wp2_with fail
  have hre := Ex.refl
  refine Rg.wp_rows [.inl (.int .i64 0), .inl (.bool false), .inl (.bool false), .inl (.int .i64 0), .inl (.bool false), .inl (.bool false), .inl (.bool false), .inl (.int .i64 0), .inl (.bool false), .inl (.bool false), .inl (.bool false), .inl (.pointer (some ⟨g, 0, none⟩)), .inl (.bool false), .inl (.bool false), .inl (.bool false), .inl (.pointer (some ⟨g, 0, none⟩)), .inl (.int .i64 (nX : Int)), .inl (.slice ax nX cx), .inl (.int .i64 (nX : Int)), .inl (.bool false), .inl (.bool false), .inl (.bool false), .inl (.slice ab nb cb'), .inl (.string (str bx)), .inl (.slice ad nd cd'), .inl (.string (str by')), .inl (.bool z), .inl (.slice ax nX cx), .inl (.slice ay nY cy), .inl (.bool z), .inl (.bool false), .inl (.bool false)] (Ex w6) Ex 93 (by kernel_rfl) rfl (by kernel_rfl) ?st hre (Ex.drew _) ?goods ?fin
  case st => exact trivial
  case goods =>
    refine Rg.goods_cons (Rg.good_move hre rfl rfl rfl) ?_
    refine Rg.goods_cons (Rg.good_bin hre rfl rfl rfl rfl (fun _ => rfl) (fun w => by go_simp)) ?_
    refine Rg.goods_cons (Rg.good_move hre rfl rfl rfl) ?_
    refine Rg.goods_cons (Rg.good_move hre rfl rfl rfl) ?_
    refine Rg.goods_cons (Rg.good_bin hre rfl rfl rfl rfl (fun _ => rfl) (fun w => by go_simp)) ?_
    refine Rg.goods_cons (Rg.good_pick false hre rfl rfl rfl rfl) ?_
    refine Rg.goods_cons (Rg.good_move hre rfl rfl rfl) ?_
    refine Rg.goods_cons (Rg.good_move hre rfl rfl rfl) ?_
    refine Rg.goods_cons (Rg.good_bin hre rfl rfl rfl rfl (fun _ => rfl) (fun w => by go_simp)) ?_
    refine Rg.goods_cons (Rg.good_pick false hre rfl rfl rfl rfl) ?_
    refine Rg.goods_cons (Rg.good_move hre rfl rfl rfl) ?_
    refine Rg.goods_cons (Rg.good_move hre rfl rfl rfl) ?_
    refine Rg.goods_cons (Rg.good_bin hre rfl rfl rfl rfl (fun _ => rfl) (fun w => by go_simp)) ?_
    refine Rg.goods_cons (Rg.good_pick false hre rfl rfl rfl rfl) ?_
    refine Rg.goods_cons (Rg.good_move hre rfl rfl rfl) ?_
    refine Rg.goods_cons (Rg.good_move hre rfl rfl rfl) ?_
    refine Rg.goods_cons (Rg.good_call1 Tryz.func20 (by kernel_rfl) rfl rfl rfl (by rintro u wx hC rfl; obtain ⟨⟨fp, h1, h2⟩, _⟩ := HC6.out; refine (rows_is g bx fp wx (h1.below hC)).mono ?_; rintro e w' ⟨rfl, rfl⟩; rw [HLen.out]; exact ⟨_, rfl, rfl, Ex.refl _, hC⟩)) ?_
    refine Rg.goods_cons (Rg.good_move hre rfl rfl rfl) ?_
    refine Rg.goods_cons (Rg.good_len hre rfl rfl (by rintro u wx _ rfl; rfl)) ?_
    refine Rg.goods_cons (Rg.good_bin hre rfl rfl rfl rfl (fun _ => rfl) (fun w => by go_simp)) ?_
    refine Rg.goods_cons (Rg.good_pick false hre rfl rfl rfl rfl) ?_
    refine Rg.goods_cons (Rg.good_move hre rfl rfl rfl) ?_
    refine Rg.goods_cons (Rg.good_move hre rfl rfl rfl) ?_
    refine Rg.goods_cons (Rg.good_conv hre rfl rfl (by rintro u wx hC rfl; exact run_str (HBx6.out.below hC) HNb.out.symm)) ?_
    refine Rg.goods_cons (Rg.good_move hre rfl rfl rfl) ?_
    refine Rg.goods_cons (Rg.good_conv hre rfl rfl (by rintro u wx hC rfl; exact run_str (HBy6.out.below hC) HNd.out.symm)) ?_
    refine Rg.goods_cons (Rg.good_bin hre rfl rfl rfl rfl (fun _ => rfl) (fun w => by have h1 := HZs.out; go_simp)) ?_
    refine Rg.goods_cons (Rg.good_move hre rfl rfl rfl) ?_
    refine Rg.goods_cons (Rg.good_move hre rfl rfl rfl) ?_
    refine Rg.goods_cons (Rg.good_call2 Tryz.func21 (by kernel_rfl) rfl rfl rfl (by rintro u u2 wx hC rfl rfl; refine (cells_is ax nX cx X ay nY cy Y wx HNX.out.symm HNY.out.symm (HRX6.out.below hC) (HRY6.out.below hC) z HZc.out).mono ?_; rintro e w' ⟨rfl, hx⟩; exact ⟨_, rfl, rfl, hx, Ex.trans hC hx⟩)) ?_
    refine Rg.goods_cons (Rg.good_bin hre rfl rfl rfl rfl (fun _ => rfl) (fun w => by cases z <;> go_simp)) ?_
    refine Rg.goods_cons (Rg.good_pick false hre rfl rfl rfl rfl) ?_
    exact Rg.goods_nil
  case fin =>
    intro wy hy
    have HXy : Hid (BackC w1 g bx ax cx X wy) := HC6.out.below hy
    clear hy hre
    simp only [Rg.later, Act.put, List.setIfInBounds_toArray, List.set_cons_succ, List.set_cons_zero]
    go_wp2_with fail
    go_loopw [17] (fun iv wr => ∃ i : Nat, i ≤ nX ∧ iv = .int .i64 (i : Int) ∧ Hid (BackC w1 g bx ax cx X wr)) (fun iv wr => nX - (intOf iv).toNat)
    case atStart => exact ⟨0, by omega, rfl, HXy⟩
    case round =>
      obtain ⟨i, hi, rfl, HBk⟩ := hrel
      by_cases hlt : i < nX
      · have ti : (i : Int) < (nX : Int) := by omega
        have hltX : i < X.length := by rw [HNX.out]; exact hlt
        obtain ⟨bq, off, hax⟩ : ∃ bq off, ax = some ⟨bq, off, none⟩ := by obtain ⟨bq, off, h, _⟩ := RdC.four HBk.out.2.1 hltX; exact ⟨bq, off, h⟩
        obtain ⟨d, hd⟩ : ∃ d, X[i] = d := ⟨_, rfl⟩
        have HLA : Hid (LA bx (i : Int) = d) := (by rw [← hd]; exact HHX.out.at_ i hltX : LA bx (i : Int) = d)
        have HLoad : Hid (∀ wx, BackC w1 g bx ax cx X wx → (Instr.loadAt 28 (.pointer (some ⟨bq, off + i * 4, none⟩))).run Tryz.prog wx = .ok (cv d) wx) := (fun wx h => by rw [← hd]; exact h.load hltX hax : ∀ wx, BackC w1 g bx ax cx X wx → (Instr.loadAt 28 (.pointer (some ⟨bq, off + i * 4, none⟩))).run Tryz.prog wx = .ok (cv d) wx)
        subst hax
        clear hd hltX
        go_wp2_with fail
        have hre2 : ∀ w : World, (fun (_ _ : World) => True) w w := fun _ => trivial
        refine Rg.wp_rows [.inl (.pointer (some ⟨g, 0, none⟩)), .inl (.int .i64 (i : Int)), .inl (cv d), .inl (.slice (some ⟨bq, off, none⟩) nX cx), .inl (.int .i64 (i : Int)), .inl (.pointer (some ⟨bq, off + i * 4, none⟩)), .inl (cv d), .inl (.bool false)] (BackC w1 g bx (some ⟨bq, off, none⟩) cx X) (fun _ _ => True) 93 (by kernel_rfl) rfl (by kernel_rfl) ?st2 hre2 (HBk.out.below (Ex.drew _)) ?goods2 ?fin2
        case st2 => exact trivial
        case goods2 =>
          refine Rg.goods_cons (Rg.good_move hre2 rfl rfl rfl) ?_
          refine Rg.goods_cons (Rg.good_move hre2 rfl rfl rfl) ?_
          refine Rg.goods_cons (Rg.good_call2 Tryz.func22 (by kernel_rfl) rfl rfl rfl (by rintro u u2 wx hC rfl rfl; refine (hC.cell HOk.out (i : Int)).mono ?_; rintro e w' ⟨rfl, hC'⟩; rw [HLA.out]; exact ⟨_, rfl, rfl, trivial, hC'⟩)) ?_
          refine Rg.goods_cons (Rg.good_move hre2 rfl rfl rfl) ?_
          refine Rg.goods_cons (Rg.good_move hre2 rfl rfl rfl) ?_
          refine Rg.goods_cons (Rg.good_index hre2 rfl rfl rfl rfl (fun wx hC => by go_simp)) ?_
          refine Rg.goods_cons (Rg.good_load hre2 rfl rfl rfl (fun wx hC => HLoad.out wx hC)) ?_
          refine Rg.goods_cons (Rg.good_bin hre2 rfl rfl rfl rfl (fun w => guard_cell _ _ _ d d w) (fun w => neq_cell d d false (by simp) w)) ?_
          exact Rg.goods_nil
        case fin2 =>
          intro wz hz2
          have HBz : Hid (BackC w1 g bx (some ⟨bq, off, none⟩) cx X wz) := hz2
          clear hz2 hre2
          simp only [Rg.later, Act.put, List.setIfInBounds_toArray, List.set_cons_succ, List.set_cons_zero]
          go_wp2_with fail
          go_roundw
          case rel => exact ⟨i + 1, by omega, by go_num, HBz⟩
          case measure => simp [intOf]; omega
      · have ti : ¬ (i : Int) < (nX : Int) := by omega
        go_wp2_with fail
        refine (known_is wr).mono ?_
        rintro ek wk ⟨rfl, hxk⟩
        go_wp2_with fail
        go_ret
        exact ⟨rfl, HBk.out.2.2.1.trans hxk⟩
end Go.Proofs.YtnmonoafjijfhaaGreat.chunkBack
