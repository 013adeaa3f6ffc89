/-
  The walk of BloomNumbers.
-/
import Derived.Test.YtadcbefgleiijaaBloomTellsWalk
import Derived.Test.YtadcbefgleiijaaFmake
import Derived.Laws.Runes
namespace Go.Proofs.Ytadcbefgleiijaa
open Go.RowKit
theorem encode_le (n : Int) : (Utf8.encode n).size ≤ 4 := by
  unfold Utf8.encode
  dsimp only
  generalize (if Utf8.valid n = true then n.toNat else Utf8.runeError) = c
  split
  · show 1 ≤ 4; omega
  · split
    · show 2 ≤ 4; omega
    · split
      · show 3 ≤ 4; omega
      · show 4 ≤ 4; omega
theorem rune_conv (n : Int) (w : World) : ∃ t : List UInt8, t.length ≤ 4 ∧ (convert 21 9 (.int .i32 n)).run Try.prog w = .ok (.string (str t)) w := by
  obtain ⟨t, ht⟩ := str_of (Utf8.encode n)
  refine ⟨t, ?_, ?_⟩
  · have h := encode_le n
    rw [ht, str_size] at h
    exact h
  · rw [run_convert_int_string w 21 9 .i32 n (by kernel_rfl) Try.underlying9, ht]
end Go.Proofs.Ytadcbefgleiijaa
namespace Go.Proofs.Ytadcbefgleiijaa.bloomNumbers
open Go.RowKit Go.Proofs.Ytadcbefgleiijaa
set_option linter.unusedVariables false
set_option linter.unusedSimpArgs false
set_option maxRecDepth 100000 in
set_option maxHeartbeats 8000000 in
theorem walk (w : World) : Calls Try.prog 3 #[] w fun e w' => e = .returned (.bool true) ∧ Below w.heap.size w w' := by
  have hO0 : OwnR 9 st w w.heap.size (.slice none 0 0) [] := ⟨by simp, .inl ⟨rfl, rfl⟩⟩
  go_enter Try.func3, Try.ntmps3
  go_wp2_with fail
  go_loopw [1, 2] (fun v i wr => ∃ j : Nat, j ≤ 100 ∧ i = .int .i64 j ∧ Hid (∃ LL : List (List UInt8), LL.length = j ∧ (∀ x ∈ LL, x.length ≤ 9223372036854775807) ∧ OwnR 9 st wr w.heap.size v LL) ∧ Hid (Ex w wr)) (fun _ i _ => 100 - (intOf i).toNat)
  case atStart => exact ⟨0, by omega, rfl, (⟨[], rfl, by simp, hO0⟩ : ∃ LL : List (List UInt8), LL.length = 0 ∧ (∀ x ∈ LL, x.length ≤ 9223372036854775807) ∧ OwnR 9 st w w.heap.size (.slice none 0 0) LL), Ex.refl _⟩
  case round =>
    obtain ⟨j, hj, rfl, HV, HXr⟩ := hrel
    clear hO0
    by_cases hlt : j < 100
    · obtain ⟨LL, hLl, hLx, hO⟩ := HV.out
      have tj : decide ((j : Int) < 100) = true := by simp; omega
      have tj2 : decide (j < 100) = true := by simp; omega
      have hsz := HXr.out.size
      obtain ⟨q, hq⟩ : ∃ q : Nat, j % 26 = q := ⟨_, rfl⟩
      have hqi : (j : Int) % 26 = (q : Int) := by omega
      obtain ⟨r, hr⟩ : ∃ r : Nat, j / 26 = r := ⟨_, rfl⟩
      have hri : (j : Int) / 26 = (r : Int) := by omega
      obtain ⟨x1, hx1⟩ : ∃ x : Int, 97 + (q : Int) = x := ⟨_, rfl⟩
      obtain ⟨x2, hx2⟩ : ∃ x : Int, 97 + (r : Int) = x := ⟨_, rfl⟩
      have hx1a : 97 ≤ x1 := by omega
      have hx1b : x1 ≤ 200 := by omega
      have hx2a : 97 ≤ x2 := by omega
      have hx2b : x2 ≤ 200 := by omega
      have hrb : r ≤ 4 := by omega
      obtain ⟨t1, ht1, hc1⟩ := rune_conv x1 wr
      obtain ⟨t2, ht2, hc2⟩ := rune_conv x2 wr
      obtain ⟨tt, hcat⟩ := str_of (({ data := #[116, 101, 120, 116, 32] } : ByteArray) ++ str t1 ++ str t2)
      have htt : tt.length ≤ 13 := by
        have h := congrArg ByteArray.size hcat
        rw [str_size, ByteArray.size_append, ByteArray.size_append, str_size, str_size] at h
        have h5 : ({ data := #[116, 101, 120, 116, 32] } : ByteArray).size = 5 := rfl
        omega
      have hz1 : (str t1).size ≤ 4 := by rw [str_size]; exact ht1
      have hz2 : (str t2).size ≤ 4 := by rw [str_size]; exact ht2
      have hz3 : ¬ 9223372036854775807 < 5 + (str t1).size := by omega
      have hz4 : ¬ 9223372036854775807 < 5 + (str t1).size + (str t2).size := by omega
      clear HV hq hr
      go_wp2_with (at_builtin; refine wpList_append_rd (e := 9) (enc := st) rfl (.tmp 26) (.tmp 39) 22 rfl [] 16 Try.underlying22 Try.info9 rfl (fun _ => rfl) w.heap.size _ LL rfl (hO.alloc _) _ _ _ [tt] rfl rfl (Rd.laid wr 9 [tt] (by simp)) (by simp [maxLen]; omega) (by simp; omega) (by simp; omega) ?_; intro v40 w40 ho40 hg40; have hx40 : Ex w w40 := step_belowR (Below.alloc HXr.out hsz _) (by simp; omega) (hO.alloc _) hg40; clear hg40)
      obtain ⟨LN, hLN⟩ : ∃ LN, LL ++ [tt] = LN := ⟨_, rfl⟩
      rw [hLN] at ho40
      have hLNl : LN.length = j + 1 := by rw [← hLN]; simp; omega
      have HLNx : Hid (∀ x ∈ LN, x.length ≤ 9223372036854775807) := (fun x hx => by
        rw [← hLN, List.mem_append, List.mem_singleton] at hx
        rcases hx with hx | rfl
        · exact hLx x hx
        · omega : ∀ x ∈ LN, x.length ≤ 9223372036854775807)
      have HO40 : Hid (OwnR 9 st w40 w.heap.size v40 LN) := ho40
      have HX40 : Hid (Ex w w40) := hx40
      obtain ⟨aL, cL, hvL, hrL⟩ := ho40.rd
      subst hvL
      have HRL : Hid (Rd st w40 aL cL LN) := hrL
      have HLNl : Hid (LN.length = j + 1) := hLNl
      obtain ⟨K, hK⟩ : ∃ K, Fl.bits LN = K := ⟨_, rfl⟩
      obtain ⟨B, hB⟩ : ∃ B, Fl.bytes LN = B := ⟨_, rfl⟩
      have hR : Fl.rightB (K : Int) B.length = true := by rw [← hK, ← hB]; exact Fl.right_built LN
      obtain ⟨_, hKm, hK1, hK2, hBl, _⟩ := Fl.right_div hR
      have hBl8 : B.length ≤ 8192 := by omega
      have HK : Hid (Fl.bits LN = K) := hK
      have HBB : Hid (Fl.bytes LN = B) := hB
      clear ho40 hx40 hrL hLN hLNl hK hB hR hKm hK1 hK2 hBl hO hLx hcat htt hc1 hc2 ht1 ht2 hqi hri hx1 hx2 hx1a hx1b hx2a hx2b hz1 hz2 hz3 hz4
      refine (b_build aL _ cL LN _ rfl HRL.out (by have := HLNl.out; omega) HLNx.out).mono ?_
      rintro e wb ⟨af, cf, rfl, hbf, hxf⟩
      rw [HBB.out] at hbf
      rw [HK.out, HBB.out]
      obtain ⟨wf, hwwf⟩ : ∃ wf, wb.alloc (Obj.cells #[Value.int IntKind.i64 (K : Int), Value.slice af B.length cf] 25) = wf := ⟨_, rfl⟩
      have hxwf : Ex wb wf := by rw [← hwwf]; exact (Below.refl _ _).alloc (Nat.le_refl _) _
      have HFwf : Hid (FAt wf wb.heap.size (K : Int) (.slice af B.length cf) 25) := (by rw [← hwwf]; exact FAt.new wb (K : Int) _ 25 : FAt wf wb.heap.size (K : Int) (.slice af B.length cf) 25)
      have HBf : Hid (Byt wf af cf B) := hbf.below hxwf
      have HXf : Hid (Ex w40 wf) := hxf.trans hxwf
      clear hbf hxf hxwf
      simp only [fv]
      go_wp2_with fail
      refine (rb_build aL _ cL LN _ rfl (HRL.out.below HXf.out) (by have := HLNl.out; omega) HLNx.out).mono ?_
      rintro e wc ⟨ag, cg, rfl, hbg, hxg⟩
      rw [HBB.out] at hbg
      rw [HK.out, HBB.out]
      obtain ⟨wg, hwwg⟩ : ∃ wg, wc.alloc (Obj.cells #[Value.int IntKind.i64 (K : Int), Value.slice ag B.length cg] 27) = wg := ⟨_, rfl⟩
      have hxwg : Ex wc wg := by rw [← hwwg]; exact (Below.refl _ _).alloc (Nat.le_refl _) _
      have HFwg : Hid (FAt wg wc.heap.size (K : Int) (.slice ag B.length cg) 27) := (by rw [← hwwg]; exact FAt.new wc (K : Int) _ 27 : FAt wg wc.heap.size (K : Int) (.slice ag B.length cg) 27)
      have HXfg : Hid (Ex wf wg) := hxg.trans hxwg
      have HBg : Hid (Byt wg ag cg B) := hbg.below hxwg
      obtain ⟨i0, i1⟩ := HFwg.out.all
      obtain ⟨j0, j1⟩ := (HFwf.out.below HXfg.out).all
      have hs1 := run_str (n := B.length) HBg.out rfl
      have hs2 := run_str (n := B.length) (HBf.out.below HXfg.out) rfl
      have HXg : Hid (Ex w wg) := HX40.out.trans (HXf.out.trans HXfg.out)
      have HVn : Hid (∃ LL : List (List UInt8), LL.length = j + 1 ∧ (∀ x ∈ LL, x.length ≤ 9223372036854775807) ∧ OwnR 9 st wg w.heap.size (.slice aL LN.length cL) LL) := (⟨LN, HLNl.out, HLNx.out, HO40.out.later (HXf.out.trans HXfg.out)⟩ : ∃ LL : List (List UInt8), LL.length = j + 1 ∧ (∀ x ∈ LL, x.length ≤ 9223372036854775807) ∧ OwnR 9 st wg w.heap.size (.slice aL LN.length cL) LL)
      clear hbg hxg hxwg hwwf
      simp only [fv]
      go_wp2_with fail
      go_roundw
      case rel => exact ⟨j + 1, by omega, by go_num, HVn, HXg⟩
      case measure => simp [intOf]; omega
    · obtain rfl : j = 100 := by omega
      rw [show ((100 : Nat) : Int) = (100 : Int) from rfl]
      have tj : decide ((100 : Int) < 100) = false := by simp
      clear HV
      go_wp2_with fail
      have hre := Ex.refl
      refine Rg.wp_rows [.inr IsFil, .inr IsFil, .inr (IsBytN 8), .inr IsFil, .inr (IsBytN 12), .inr IsFil, .inr (IsBytN 4), .inr IsFil, .inr (IsBytN 8192), .inr IsFil, .inr (IsBytN 16384), .inr IsFil, .inr IsFil, .inr IsRowF, .inl (Value.int .i64 8), .inl (Value.int .i64 0)] (Ex wr) Ex 175 (by kernel_rfl) rfl (by kernel_rfl) ?st hre (Ex.drew _) ?goods ?fin
      case st => exact ⟨IsFil.stands, IsFil.stands, IsBytN.stands 8, IsFil.stands, IsBytN.stands 12, IsFil.stands, IsBytN.stands 4, IsFil.stands, IsBytN.stands 8192, IsFil.stands, IsBytN.stands 16384, IsFil.stands, IsFil.stands, IsRowF.stands, trivial⟩
      case goods =>
        refine Rg.goods_cons (Rg.good_fil0 rfl rfl) ?_
        refine Rg.goods_cons (Rg.good_fil1 rfl rfl ⟨by decide, by decide⟩) ?_
        refine Rg.goods_cons (Rg.good_mk 8 (by omega) rfl rfl) ?_
        refine Rg.goods_cons (Rg.good_fil2 8 (by omega) rfl rfl rfl ⟨by decide, by decide⟩) ?_
        refine Rg.goods_cons (Rg.good_mk 12 (by omega) rfl rfl) ?_
        refine Rg.goods_cons (Rg.good_fil2 12 (by omega) rfl rfl rfl ⟨by decide, by decide⟩) ?_
        refine Rg.goods_cons (Rg.good_mk 4 (by omega) rfl rfl) ?_
        refine Rg.goods_cons (Rg.good_fil2 4 (by omega) rfl rfl rfl ⟨by decide, by decide⟩) ?_
        refine Rg.goods_cons (Rg.good_mk 8192 (by omega) rfl rfl) ?_
        refine Rg.goods_cons (Rg.good_fil2 8192 (by omega) rfl rfl rfl ⟨by decide, by decide⟩) ?_
        refine Rg.goods_cons (Rg.good_mk 16384 (by omega) rfl rfl) ?_
        refine Rg.goods_cons (Rg.good_fil2 16384 (by omega) rfl rfl rfl ⟨by decide, by decide⟩) ?_
        refine Rg.goods_cons (Rg.good_fil1 rfl rfl ⟨by decide, by decide⟩) ?_
        refine Rg.goods_cons (Rg.good_row8 rfl rfl rfl rfl rfl rfl rfl rfl rfl rfl) ?_
        refine Rg.goods_cons (Rg.good_len hre rfl rfl (by rintro u wx hC ⟨g, rfl, _⟩; go_simp)) ?_
        refine Rg.goods_cons (Rg.good_move hre rfl rfl rfl) ?_
        exact Rg.goods_nil
      case fin =>
        intro wz hxz
        simp only [Rg.later, Act.put, List.setIfInBounds_toArray, List.set_cons_succ, List.set_cons_zero]
        intro v59 h59 v60 h60 v61 h61 v62 h62 v63 h63 v64 h64 v65 h65 v66 h66 v67 h67 v68 h68 v69 h69 v70 h70 v71 h71 v72 h72
        obtain ⟨g, rfl, hrow⟩ := h72
        have HRow : Hid (RowF 8 g wz) := hrow
        have HXz : Hid (Ex w wz) := HXr.out.trans hxz
        clear hxz hrow h59 h60 h61 h62 h63 h64 h65 h66 h67 h68 h69 h70 h71
        go_wp2_with fail
        go_loopw [74] (fun i wr => ∃ j : Nat, j ≤ 8 ∧ i = .int .i64 j ∧ Hid (Ex wz wr)) (fun i _ => 8 - (intOf i).toNat)
        case atStart => exact ⟨0, by omega, rfl, Ex.refl _⟩
        case round =>
          obtain ⟨j, hj, rfl, HX2⟩ := hrel
          by_cases hlt8 : j < 8
          · obtain ⟨kx, ax, cx, lx, hc0, hc1, hbx, hlx, hi6⟩ := HRow.out j hlt8
            have HI6 : Hid (Fl.I6 kx) := hi6
            clear hi6
            have hc0' := cell_ex hc0 HX2.out
            have hc1' := cell_ex hc1 HX2.out
            have HBx : Hid (Byt wr ax cx lx) := hbx.below HX2.out
            have tj8 : decide ((j : Int) < 8) = true := by simp; omega
            have tj82 : decide (j < 8) = true := by simp; omega
            obtain ⟨w5, hw5⟩ : ∃ w5, wr.alloc (Obj.cells #[Value.int IntKind.i64 kx, Value.slice ax lx.length cx] 25) = w5 := ⟨_, rfl⟩
            have hx5 : Ex wr w5 := by rw [← hw5]; exact (Below.refl _ _).alloc (Nat.le_refl _) _
            have HF5 : Hid (FAt w5 wr.heap.size kx (.slice ax lx.length cx) 25) := (by rw [← hw5]; exact FAt.new wr kx _ 25 : FAt w5 wr.heap.size kx (.slice ax lx.length cx) 25)
            have HX5 : Hid (Ex wr w5) := hx5
            have HB5 : Hid (Byt w5 ax cx lx) := HBx.out.below hx5
            obtain ⟨g0, g1⟩ := HF5.out.all
            obtain ⟨⟨Cb, e0⟩, henc⟩ : ∃ z, Fl.encE kx lx = z := ⟨_, rfl⟩
            have HEnc : Hid (Fl.encE kx lx = (Cb, e0)) := henc
            obtain ⟨hCl, he0⟩ := Fl.enc_small henc
            obtain ⟨rm, hrm⟩ : ∃ rm, Fl.may kx lx [120] = rm := ⟨_, rfl⟩
            have HRm : Hid (Fl.may kx lx [120] = rm) := hrm
            obtain ⟨rr, hrr⟩ : ∃ rr, Fl.rightB kx lx.length = rr := ⟨_, rfl⟩
            have HRr : Hid (Fl.rightB kx lx.length = rr) := hrr
            clear hc0 hc1 hbx hx5 henc hrm hrr
            go_wp2_with fail
            refine (b_enc kx ax lx.length cx lx _ rfl HB5.out (by omega) HI6.out Cb e0 HEnc.out).mono ?_
            rintro e w6 ⟨ac, cc, rfl, hbc, hxc⟩
            have HX6 : Hid (Ex w5 w6) := hxc
            have HC6 : Hid (Byt w6 ac cc Cb) := hbc
            obtain ⟨g0', g1'⟩ := (HF5.out.below hxc).all
            clear hbc hxc g0 g1 hc0' hc1' hw5
            go_wp2_with fail
            refine (in_is kx ax lx.length cx _).mono ?_
            rintro e w7 ⟨rfl, hx7⟩
            have HX7 : Hid (Ex w6 w7) := hx7
            clear hx7 g0' g1'
            simp only [fv]
            go_wp2_with fail
            refine (rb_enc kx ax lx.length cx lx _ rfl (HB5.out.below (HX6.out.trans HX7.out)) (by omega) Cb e0 HEnc.out).mono ?_
            rintro e w8 ⟨ad, cd, rfl, hbd, hxd⟩
            have HX8 : Hid (Ex w5 w8) := HX6.out.trans (HX7.out.trans hxd)
            have HC8 : Hid (Byt w8 ac cc Cb) := HC6.out.below (HX7.out.trans hxd)
            have HD8 : Hid (Byt w8 ad cd Cb) := hbd
            have HF8 : Hid (FAt w8 wr.heap.size kx (.slice ax lx.length cx) 25) := HF5.out.below HX8.out
            have HB8 : Hid (Byt w8 ax cx lx) := HB5.out.below HX8.out
            have HXr8 : Hid (Ex wz w8) := HX2.out.trans (HX5.out.trans HX8.out)
            clear hbd hxd
            go_wp2_with fail
            have hre := Ex.refl
            refine Rg.wp_rows [.inl (fv kx (.slice ax lx.length cx)), .inl (.bool rr), .inl (fv kx (.slice ax lx.length cx)), .inl (fv kx (.slice ax lx.length cx)), .inl (.bool rr), .inl (.bool false), .inl (.bool false), .inl (Value.slice ac Cb.length cc), .inl (Value.string (str Cb)), .inl (Value.slice ad Cb.length cd), .inl (Value.string (str Cb)), .inl (.bool false), .inl (.bool false), .inl (.bool false), .inl (Value.int .i64 e0), .inl (Value.int .i64 e0), .inl (.bool false), .inl (.bool false), .inl (.bool false), .inl (fv kx (.slice ax lx.length cx)), .inl (.bool rm), .inl (fv kx (.slice ax lx.length cx)), .inl (fv kx (.slice ax lx.length cx)), .inl (.bool rm), .inl (.bool false), .inl (.bool false)] (Ex w8) Ex 175 (by kernel_rfl) rfl (by kernel_rfl) ?st hre (Ex.drew _) ?goods ?fin
            case st => exact trivial
            case goods =>
              refine Rg.goods_cons (Rg.good_load hre rfl rfl rfl (fun wx hC => by exact load_filI (.inl rfl) (HF8.out.below hC))) ?_
              refine Rg.goods_cons (Rg.good_call1 Try.func14 (by kernel_rfl) rfl rfl rfl (by rintro u wx hC rfl; exact ex_row (b_right kx ax lx.length cx wx (by omega) HI6.out rr HRr.out) hC)) ?_
              refine Rg.goods_cons (Rg.good_load hre rfl rfl rfl (fun wx hC => by exact load_filI (.inl rfl) (HF8.out.below hC))) ?_
              refine Rg.goods_cons (Rg.good_call1 Try.func13 (by kernel_rfl) rfl rfl rfl (by rintro u wx hC rfl; exact ex_row (in_is kx ax lx.length cx wx) hC)) ?_
              refine Rg.goods_cons (Rg.good_call1 Try.func15 (by kernel_rfl) rfl rfl rfl (by rintro u wx hC rfl; exact ex_row (rright_is kx ax lx.length cx wx (by omega) rr HRr.out) hC)) ?_
              refine Rg.goods_cons (Rg.good_bin hre rfl rfl rfl rfl (fun _ => rfl) (fun w => by cases rr <;> go_simp)) ?_
              refine Rg.goods_cons (Rg.good_move hre rfl rfl rfl) ?_
              refine Rg.goods_cons (Rg.good_move hre rfl rfl rfl) ?_
              refine Rg.goods_cons (Rg.good_conv hre rfl rfl (by rintro u wx hC rfl; exact run_str (HC8.out.below hC) rfl)) ?_
              refine Rg.goods_cons (Rg.good_move hre rfl rfl rfl) ?_
              refine Rg.goods_cons (Rg.good_conv hre rfl rfl (by rintro u wx hC rfl; exact run_str (HD8.out.below hC) rfl)) ?_
              refine Rg.goods_cons (Rg.good_bin hre rfl rfl rfl rfl (fun _ => rfl) (fun w => by go_simp)) ?_
              refine Rg.goods_cons (Rg.good_pick false hre rfl rfl rfl rfl) ?_
              refine Rg.goods_cons (Rg.good_move hre rfl rfl rfl) ?_
              refine Rg.goods_cons (Rg.good_move hre rfl rfl rfl) ?_
              refine Rg.goods_cons (Rg.good_move hre rfl rfl rfl) ?_
              refine Rg.goods_cons (Rg.good_bin hre rfl rfl rfl rfl (fun _ => rfl) (fun w => by go_simp)) ?_
              refine Rg.goods_cons (Rg.good_pick false hre rfl rfl rfl rfl) ?_
              refine Rg.goods_cons (Rg.good_move hre rfl rfl rfl) ?_
              refine Rg.goods_cons (Rg.good_load hre rfl rfl rfl (fun wx hC => by exact load_filI (.inl rfl) (HF8.out.below hC))) ?_
              refine Rg.goods_cons (Rg.good_call2 Try.func16 (by kernel_rfl) rfl rfl rfl (by rintro u u2 wx hC rfl rfl; exact ex_row (b_may kx ax lx.length cx lx [120] wx rfl (HB8.out.below hC) (by omega) (by simp) HI6.out rm HRm.out) hC)) ?_
              refine Rg.goods_cons (Rg.good_load hre rfl rfl rfl (fun wx hC => by exact load_filI (.inl rfl) (HF8.out.below hC))) ?_
              refine Rg.goods_cons (Rg.good_call1 Try.func13 (by kernel_rfl) rfl rfl rfl (by rintro u wx hC rfl; exact ex_row (in_is kx ax lx.length cx wx) hC)) ?_
              refine Rg.goods_cons (Rg.good_call2 Try.func17 (by kernel_rfl) rfl rfl rfl (by rintro u u2 wx hC rfl rfl; exact ex_row (rmay_is kx ax lx.length cx lx [120] wx rfl (HB8.out.below hC) (by omega) (by simp) rm HRm.out) hC)) ?_
              refine Rg.goods_cons (Rg.good_bin hre rfl rfl rfl rfl (fun _ => rfl) (fun w => by cases rm <;> go_simp)) ?_
              refine Rg.goods_cons (Rg.good_pick false hre rfl rfl rfl rfl) ?_
              exact Rg.goods_nil
            case fin =>
              intro wx hx
              simp only [Rg.later, Act.put, List.setIfInBounds_toArray, List.set_cons_succ, List.set_cons_zero]
              have HXx : Hid (Ex wz wx) := HXr8.out.trans hx
              clear hx
              go_wp2_with fail
              go_roundw
              case rel => exact ⟨j + 1, by omega, by go_num, HXx⟩
              case measure => simp [intOf]; omega
          · obtain rfl : j = 8 := by omega
            have HWX : Hid (Ex w wr) := HXz.out.trans HX2.out
            obtain ⟨z1, hz1⟩ : ∃ z, wr.alloc (Obj.cells #[Value.int IntKind.u8 64] 5) = z := ⟨_, rfl⟩
            have hX1 : Ex wr z1 := by rw [← hz1]; exact (Below.refl _ _).alloc (Nat.le_refl _) _
            have hB1 : Byt z1 (some ⟨wr.heap.size, 0, none⟩) 1 [64] := by rw [← hz1]; exact Byt.laid wr [64] (by simp)
            obtain ⟨z2, hz2⟩ : ∃ z, z1.alloc (Obj.cells #[Value.int IntKind.u8 64, Value.int IntKind.u8 1, Value.int IntKind.u8 2, Value.int IntKind.u8 3, Value.int IntKind.u8 4, Value.int IntKind.u8 5, Value.int IntKind.u8 6, Value.int IntKind.u8 7] 5) = z := ⟨_, rfl⟩
            have hX2 : Ex z1 z2 := by rw [← hz2]; exact (Below.refl _ _).alloc (Nat.le_refl _) _
            have hB2 : Byt z2 (some ⟨z1.heap.size, 0, none⟩) 8 [64, 1, 2, 3, 4, 5, 6, 7] := by rw [← hz2]; exact Byt.laid z1 [64, 1, 2, 3, 4, 5, 6, 7] (by simp)
            obtain ⟨z3, hz3⟩ : ∃ z, z2.alloc (Obj.cells #[Value.int IntKind.u8 64, Value.int IntKind.u8 1, Value.int IntKind.u8 2, Value.int IntKind.u8 3, Value.int IntKind.u8 4, Value.int IntKind.u8 5, Value.int IntKind.u8 6, Value.int IntKind.u8 7, Value.int IntKind.u8 8] 5) = z := ⟨_, rfl⟩
            have hX3 : Ex z2 z3 := by rw [← hz3]; exact (Below.refl _ _).alloc (Nat.le_refl _) _
            have hB3 : Byt z3 (some ⟨z2.heap.size, 0, none⟩) 9 [64, 1, 2, 3, 4, 5, 6, 7, 8] := by rw [← hz3]; exact Byt.laid z2 [64, 1, 2, 3, 4, 5, 6, 7, 8] (by simp)
            obtain ⟨z4, hz4⟩ : ∃ z, z3.alloc (Obj.cells #[Value.int IntKind.u8 96, Value.int IntKind.u8 1, Value.int IntKind.u8 2, Value.int IntKind.u8 3] 5) = z := ⟨_, rfl⟩
            have hX4 : Ex z3 z4 := by rw [← hz4]; exact (Below.refl _ _).alloc (Nat.le_refl _) _
            have hB4 : Byt z4 (some ⟨z3.heap.size, 0, none⟩) 4 [96, 1, 2, 3] := by rw [← hz4]; exact Byt.laid z3 [96, 1, 2, 3] (by simp)
            obtain ⟨z5, hz5⟩ : ∃ z, z4.alloc (Obj.cells #[Value.int IntKind.u8 128, Value.int IntKind.u8 1, Value.int IntKind.u8 1, Value.int IntKind.u8 2, Value.int IntKind.u8 3] 5) = z := ⟨_, rfl⟩
            have hX5 : Ex z4 z5 := by rw [← hz5]; exact (Below.refl _ _).alloc (Nat.le_refl _) _
            have hB5 : Byt z5 (some ⟨z4.heap.size, 0, none⟩) 5 [128, 1, 1, 2, 3] := by rw [← hz5]; exact Byt.laid z4 [128, 1, 1, 2, 3] (by simp)
            obtain ⟨z6, hz6⟩ : ∃ z, z5.alloc (Obj.cells #[Value.int IntKind.u8 128, Value.int IntKind.u8 128, Value.int IntKind.u8 8] 5) = z := ⟨_, rfl⟩
            have hX6 : Ex z5 z6 := by rw [← hz6]; exact (Below.refl _ _).alloc (Nat.le_refl _) _
            have hB6 : Byt z6 (some ⟨z5.heap.size, 0, none⟩) 3 [128, 128, 8] := by rw [← hz6]; exact Byt.laid z5 [128, 128, 8] (by simp)
            obtain ⟨z7, hz7⟩ : ∃ z, z6.alloc (Obj.cells #[Value.slice none 0 0, Value.slice (some { block := wr.heap.size, off := 0 }) 1 1, Value.slice (some { block := z1.heap.size, off := 0 }) 8 8, Value.slice (some { block := z2.heap.size, off := 0 }) 9 9, Value.slice (some { block := z3.heap.size, off := 0 }) 4 4, Value.slice (some { block := z4.heap.size, off := 0 }) 5 5, Value.slice (some { block := z5.heap.size, off := 0 }) 3 3] 23) = z := ⟨_, rfl⟩
            have hX7 : Ex z6 z7 := by rw [← hz7]; exact (Below.refl _ _).alloc (Nat.le_refl _) _
            have hblk : z7.heap[z6.heap.size]? = some (.cells [Value.slice none 0 0, Value.slice (some { block := wr.heap.size, off := 0 }) 1 1, Value.slice (some { block := z1.heap.size, off := 0 }) 8 8, Value.slice (some { block := z2.heap.size, off := 0 }) 9 9, Value.slice (some { block := z3.heap.size, off := 0 }) 4 4, Value.slice (some { block := z4.heap.size, off := 0 }) 5 5, Value.slice (some { block := z5.heap.size, off := 0 }) 3 3].toArray 23 (0, 0)) := by rw [← hz7]; exact heap_alloc_new z6 _
            have hcel : ∀ k, z7.cell? ⟨z6.heap.size, k, none⟩ = [Value.slice none 0 0, Value.slice (some { block := wr.heap.size, off := 0 }) 1 1, Value.slice (some { block := z1.heap.size, off := 0 }) 8 8, Value.slice (some { block := z2.heap.size, off := 0 }) 9 9, Value.slice (some { block := z3.heap.size, off := 0 }) 4 4, Value.slice (some { block := z4.heap.size, off := 0 }) 5 5, Value.slice (some { block := z5.heap.size, off := 0 }) 3 3][k]? := fun k => by
              rw [cell_of_row z7 _ k _ 23 (0, 0) hblk, List.getElem?_toArray]
            have x67 := hX7
            have x57 := hX6.trans x67
            have x47 := hX5.trans x57
            have x37 := hX4.trans x47
            have x27 := hX3.trans x37
            have x17 := hX2.trans x27
            have HE3 : Hid (∀ j, j < 7 → ∃ (ax : Option Addr) (cx : Nat) (lx : List UInt8), z7.cell? ⟨z6.heap.size, j, none⟩ = some (.slice ax lx.length cx) ∧ Byt z7 ax cx lx ∧ lx.length ≤ 9) := (by
              intro j hj
              match j, hj with
              | 0, _ => exact ⟨none, 0, [], hcel 0, Byt.nil _, by simp⟩
              | 1, _ => exact ⟨_, 1, [64], hcel 1, hB1.below x17, by simp⟩
              | 2, _ => exact ⟨_, 8, [64, 1, 2, 3, 4, 5, 6, 7], hcel 2, hB2.below x27, by simp⟩
              | 3, _ => exact ⟨_, 9, [64, 1, 2, 3, 4, 5, 6, 7, 8], hcel 3, hB3.below x37, by simp⟩
              | 4, _ => exact ⟨_, 4, [96, 1, 2, 3], hcel 4, hB4.below x47, by simp⟩
              | 5, _ => exact ⟨_, 5, [128, 1, 1, 2, 3], hcel 5, hB5.below x57, by simp⟩
              | 6, _ => exact ⟨_, 3, [128, 128, 8], hcel 6, hB6.below x67, by simp⟩ : ∀ j, j < 7 → ∃ (ax : Option Addr) (cx : Nat) (lx : List UInt8), z7.cell? ⟨z6.heap.size, j, none⟩ = some (.slice ax lx.length cx) ∧ Byt z7 ax cx lx ∧ lx.length ≤ 9)
            have HX7 : Hid (Ex w z7) := HWX.out.trans (hX1.trans x17)
            clear hX1 hX2 hX3 hX4 hX5 hX6 hX7 hB1 hB2 hB3 hB4 hB5 hB6 hblk hcel x67 x57 x47 x37 x27 x17
            go_wp2_with fail
            go_loopw [124] (fun i wr => ∃ j : Nat, j ≤ 7 ∧ i = .int .i64 j ∧ Hid (Ex z7 wr)) (fun i _ => 7 - (intOf i).toNat)
            case atStart => exact ⟨0, by omega, rfl, Ex.refl _⟩
            case round =>
              obtain ⟨j, hj, rfl, HX9⟩ := hrel
              by_cases hlt7 : j < 7
              · obtain ⟨ax, cx, lx, hc0, hbx, hlx⟩ := HE3.out j hlt7
                have hc0' := cell_ex hc0 HX9.out
                have HBx : Hid (Byt wr ax cx lx) := hbx.below HX9.out
                have tj7 : decide ((j : Int) < 7) = true := by simp; omega
                have tj72 : decide (j < 7) = true := by simp; omega
                obtain ⟨⟨N2, x2, k2, e2⟩, hdec⟩ : ∃ z, Fl.decE lx 0 = z := ⟨_, rfl⟩
                have HD2 : Hid (Fl.decE lx 0 = (N2, x2, k2, e2)) := hdec
                obtain ⟨hN2, hk2, he2⟩ := Fl.dec_small hdec
                clear hdec hc0 hbx hz1 hz2 hz3 hz4 hz5 hz6 hz7
                go_wp2_with fail
                refine (b_dec ax _ cx lx _ _ rfl HBx.out (by omega) N2 x2 k2 e2 HD2.out).mono ?_
                rintro e wd ⟨ah, ch, rfl, hbh, hxh⟩
                obtain ⟨wh, hwwh⟩ : ∃ wh, wd.alloc (Obj.cells #[Value.int IntKind.i64 (N2 : Int), Value.slice ah x2.length ch] 25) = wh := ⟨_, rfl⟩
                have hxwh : Ex wd wh := by rw [← hwwh]; exact (Below.refl _ _).alloc (Nat.le_refl _) _
                have HFwh : Hid (FAt wh wd.heap.size (N2 : Int) (.slice ah x2.length ch) 25) := (by rw [← hwwh]; exact FAt.new wd (N2 : Int) _ 25 : FAt wh wd.heap.size (N2 : Int) (.slice ah x2.length ch) 25)
                have HXh : Hid (Ex wr wh) := hxh.trans hxwh
                have HBh : Hid (Byt wh ah ch x2) := hbh.below hxwh
                clear hbh hxh hxwh
                simp only [fv]
                go_wp2_with fail
                refine (rb_dec ax _ cx lx _ _ rfl (HBx.out.below HXh.out) (by omega) N2 x2 k2 e2 HD2.out).mono ?_
                rintro e we ⟨ai, ci, rfl, hbi, hxi⟩
                obtain ⟨wi, hwwi⟩ : ∃ wi, we.alloc (Obj.cells #[Value.int IntKind.i64 (N2 : Int), Value.slice ai x2.length ci] 27) = wi := ⟨_, rfl⟩
                have hxwi : Ex we wi := by rw [← hwwi]; exact (Below.refl _ _).alloc (Nat.le_refl _) _
                have HFwi : Hid (FAt wi we.heap.size (N2 : Int) (.slice ai x2.length ci) 27) := (by rw [← hwwi]; exact FAt.new we (N2 : Int) _ 27 : FAt wi we.heap.size (N2 : Int) (.slice ai x2.length ci) 27)
                have HXhi : Hid (Ex wh wi) := hxi.trans hxwi
                have HBi : Hid (Byt wi ai ci x2) := hbi.below hxwi
                have HXi : Hid (Ex z7 wi) := HX9.out.trans (HXh.out.trans HXhi.out)
                obtain ⟨i0, i1⟩ := HFwi.out.all
                obtain ⟨j0, j1⟩ := (HFwh.out.below HXhi.out).all
                have hs1 := run_str (n := x2.length) HBi.out rfl
                have hs2 := run_str (n := x2.length) (HBh.out.below HXhi.out) rfl
                clear hbi hxi hxwi hwwh
                simp only [fv]
                go_wp2_with fail
                go_roundw
                case rel => exact ⟨j + 1, by omega, by go_num, HXi⟩
                case measure => simp [intOf]; omega
              · obtain rfl : j = 7 := by omega
                have HDn : Hid (Fl.decE [] (-1) = (0, [], 0, 1)) := (by unfold Fl.decE; rw [M.get_out (.inl (by omega))]; rfl : Fl.decE [] (-1) = (0, [], 0, 1))
                have HXw : Hid (Ex w wr) := HX7.out.trans HX9.out
                clear hz1 hz2 hz3 hz4 hz5 hz6 hz7
                go_wp2_with fail
                refine (b_dec none 0 0 [] (-1) _ rfl (Byt.nil _) (by simp) 0 [] 0 1 HDn.out).mono ?_
                rintro e wd ⟨ah, ch, rfl, hbh, hxh⟩
                have HXd : Hid (Ex w wd) := HXw.out.trans hxh
                have HXd2 : Hid (Ex w (wd.alloc (Obj.cells #[Value.int IntKind.i64 0, Value.slice ah 0 ch] 25))) := Below.alloc HXd.out HXd.out.size _
                clear hbh hxh
                simp only [fv]
                go_wp2_with fail
                refine (known_any _).mono ?_
                rintro e wk ⟨rfl, hxk⟩
                go_wp2_with fail
                go_ret
                exact ⟨rfl, HXd2.out.trans hxk⟩
end Go.Proofs.Ytadcbefgleiijaa.bloomNumbers
