/-
  The walk of ZoneNumbers.
-/
import Derived.Test.YtnfbmffafclaaaaZoneTellsWalk
namespace Go.Proofs.Ytnfbmffafclaaaa
open Go.RowKit
set_option linter.unusedVariables false
set_option linter.unusedSimpArgs false
set_option maxHeartbeats 1000000 in
theorem loadI_zs {w9 : World} {g i : Nat} {l : List Zn} {z : Zn} (h : ZsAt w9 g l) (hi : l[i]? = some z) : (Instr.loadAt 23 (.pointer (some ⟨g, i * 7, none⟩))).run Try.prog w9 = .ok (zv z) w9 := by
  obtain ⟨c0, c1, c2, c3, c4, c5, c6⟩ := h.cells hi
  clear h hi
  simp [go_sem, zv, c0, c1, c2, c3, c4, c5, c6]
namespace zoneNumbers
/-- The zones of the closed sentence. -/
def ZS : List Zn := [⟨0, 0, 0, 0, 0, [], []⟩, ⟨1, 0, 0, 0, 0, [], []⟩, ⟨3, 1, 1, 0, 0, [], []⟩, ⟨1, 2, 3, 0, 0, [], []⟩, ⟨1, -1, -1, 0, 0, [], []⟩, ⟨1, 1, 0, 5, 4, [], []⟩, ⟨1, 1, 0, 5, 5, [], []⟩, ⟨1, 1, 0, 0, 0, [], [120]⟩, ⟨1, 1, 1, 0, 1, [], []⟩, ⟨2, 1, 0, 0, 0, [98], [97]⟩, ⟨2, 9, 2, 0, 0, [97], [98]⟩, ⟨2, 1, 0, 0, 1, [], []⟩,
  ⟨2, 1, 0, 0, 0, [], List.replicate 41 0⟩, ⟨1, 1048577, 0, 0, 0, [], []⟩, ⟨1, 1048576, 0, -9223372036854775808, 9223372036854775807, [], []⟩, ⟨2, 3, 0, 0, 0, [], []⟩]
theorem ZS_ok : ∀ z ∈ ZS, z.ms.length ≤ 41 ∧ z.xs.length ≤ 41 ∧ (-9223372036854775808 ≤ z.mn ∧ z.mn ≤ 9223372036854775807) ∧ (-9223372036854775808 ≤ z.mx ∧ z.mx ≤ 9223372036854775807) := by decide +kernel
theorem ZS_w3 : ∀ z ∈ ZS, (-9223372036854775808 ≤ z.k ∧ z.k ≤ 9223372036854775807) ∧ (-9223372036854775808 ≤ z.r ∧ z.r ≤ 9223372036854775807) ∧ (-9223372036854775808 ≤ z.u ∧ z.u ≤ 9223372036854775807) := by decide +kernel
/-- The bytes of the closed sentence. -/
def BY : List (List UInt8) := [[3, 0, 0], [1, 1, 2], [1, 1, 0], [1, 1, 0, 4, 2], [1, 1, 0, 2, 4], [2, 1, 0, 1, 97, 0], [2, 2, 1, 0, 1, 97, 9], [2, 1, 0, 41], [1, 129, 128, 64, 0], [1, 2, 2, 7]]
def lay (w : World) : List (List UInt8) → World
  | [] => w
  | l :: r => lay (w.alloc (.cells (cs l).toArray 5)) r
theorem lay_ex : ∀ (ls : List (List UInt8)) (w : World), Ex w (lay w ls)
  | [], w => Ex.refl w
  | l :: r, w => Ex.trans ((Below.refl _ _).alloc (Nat.le_refl _) _) (lay_ex r _)
theorem lay_size : ∀ (ls : List (List UInt8)) (w : World), (lay w ls).heap.size = w.heap.size + ls.length
  | [], w => rfl
  | l :: r, w => by simp only [lay, lay_size r, World.size_alloc, List.length_cons]; omega
theorem lay_byt : ∀ (ls : List (List UInt8)) (w : World) (i : Nat) (l : List UInt8), ls[i]? = some l → l.length ≤ 1000 → Byt (lay w ls) (some ⟨w.heap.size + i, 0, none⟩) l.length l
  | [], w, i, l, h, _ => by simp at h
  | x :: r, w, 0, l, h, hl => by
    simp at h
    subst h
    have hb : Byt (w.alloc (.cells (cs x).toArray 5)) (some ⟨w.heap.size, 0, none⟩) x.length x := RowAt.byt (e := 5) (heap_alloc_new w _) rfl (by omega)
    exact hb.below (lay_ex r _)
  | x :: r, w, i + 1, l, h, hl => by
    have := lay_byt r (w.alloc (.cells (cs x).toArray 5)) i l (by simpa using h) hl
    rw [World.size_alloc, Nat.add_assoc, Nat.add_comm 1 i] at this
    exact this
def VS (h : Nat) : List Value := .slice none 0 0 :: [.slice (some ⟨h, 0, none⟩) 3 3, .slice (some ⟨h + 1, 0, none⟩) 3 3, .slice (some ⟨h + 2, 0, none⟩) 3 3, .slice (some ⟨h + 3, 0, none⟩) 5 5, .slice (some ⟨h + 4, 0, none⟩) 5 5, .slice (some ⟨h + 5, 0, none⟩) 6 6, .slice (some ⟨h + 6, 0, none⟩) 7 7, .slice (some ⟨h + 7, 0, none⟩) 4 4, .slice (some ⟨h + 8, 0, none⟩) 5 5, .slice (some ⟨h + 9, 0, none⟩) 4 4]
theorem VS_at (h : Nat) : ∀ k, k < 11 → ∃ (l : List UInt8) (a : Option Addr), (VS h)[k]? = some (.slice a l.length l.length) ∧ ((l = [] ∧ a = none) ∨ ∃ j, BY[j]? = some l ∧ l.length ≤ 1000 ∧ a = some ⟨h + j, 0, none⟩)
  | 0, _ => ⟨[], none, rfl, .inl ⟨rfl, rfl⟩⟩
  | 1, _ => ⟨_, _, rfl, .inr ⟨0, rfl, by decide, rfl⟩⟩
  | 2, _ => ⟨_, _, rfl, .inr ⟨1, rfl, by decide, rfl⟩⟩
  | 3, _ => ⟨_, _, rfl, .inr ⟨2, rfl, by decide, rfl⟩⟩
  | 4, _ => ⟨_, _, rfl, .inr ⟨3, rfl, by decide, rfl⟩⟩
  | 5, _ => ⟨_, _, rfl, .inr ⟨4, rfl, by decide, rfl⟩⟩
  | 6, _ => ⟨_, _, rfl, .inr ⟨5, rfl, by decide, rfl⟩⟩
  | 7, _ => ⟨_, _, rfl, .inr ⟨6, rfl, by decide, rfl⟩⟩
  | 8, _ => ⟨_, _, rfl, .inr ⟨7, rfl, by decide, rfl⟩⟩
  | 9, _ => ⟨_, _, rfl, .inr ⟨8, rfl, by decide, rfl⟩⟩
  | 10, _ => ⟨_, _, rfl, .inr ⟨9, rfl, by decide, rfl⟩⟩
  | n + 11, h => by omega
theorem dec_five : Z.dec [] 5 = (Z.zero, 0, 1) := by rfl
theorem build_none : Z.build 2 [] = ⟨2, 0, 0, 0, 0, [], []⟩ := by rfl
set_option maxHeartbeats 8000000 in
set_option maxRecDepth 100000 in
theorem walk (w : World) : Calls Try.prog 3 #[] w fun e w' => e = .returned (.bool true) ∧ Below w.heap.size w w' := by
  go_enter Try.func3, Try.ntmps3
  go_wp2_with (at_make; refine wpList_make_zero rfl _ _ rfl _ _ 41 rfl rfl rfl rfl (by omega) ?_; intro w1 hr1 hb1; have hcv : (convert 24 9 (.slice (some ⟨w.heap.size, 0, none⟩) 41 41)).run Try.prog w1 = .ok (.string (str (List.replicate 41 0))) w1 := run_str (l := List.replicate 41 0) (RowAt.byt (e := 5) (l := List.replicate 41 0) hr1 (by simp) (by omega)) (by simp))
  generalize hW : World.alloc _ _ = w2
  have HS : Hid (ZsAt w2 w1.heap.size ZS) := (by rw [← hW]; exact heap_alloc_new w1 _ : ZsAt w2 w1.heap.size ZS)
  have HX2 : Hid (Ex w w2) := (by rw [← hW]; exact Ex.trans hb1 ((Below.refl _ _).alloc (Nat.le_refl _) _) : Ex w w2)
  obtain ⟨gs, hgs⟩ : ∃ gs, gs = w1.heap.size := ⟨_, rfl⟩
  rw [← hgs] at HS ⊢
  clear hW hr1 hb1 hcv hgs
  go_loopw [2] (fun iv wr => ∃ i : Nat, i ≤ 16 ∧ iv = .int .i64 i ∧ Hid (Ex w2 wr)) (fun iv _ => 16 - (intOf iv).toNat)
  case atStart => exact ⟨0, by omega, rfl, Ex.refl w2⟩
  case round =>
    obtain ⟨i, hi16, rfl, HXi⟩ := hrel
    by_cases hlt : i < 16
    · have hti : (i : Int) < 16 := by omega
      obtain ⟨x, hx⟩ : ∃ x, ZS[i]? = some x := ⟨_, List.getElem?_eq_getElem (show i < ZS.length from hlt)⟩
      have Hx : Hid (ZS[i]? = some x) := hx
      obtain ⟨o1, o2, o3, o4⟩ := ZS_ok x (List.mem_of_getElem? hx)
      have Hxm : Hid (x.ms.length ≤ maxLen) := (by unfold maxLen; omega : x.ms.length ≤ maxLen)
      have Hxx : Hid (x.xs.length ≤ maxLen) := (by unfold maxLen; omega : x.xs.length ≤ maxLen)
      have Ho1 : Hid (In64 x.mn) := o3
      have Hxw : Hid (Z.W3 x) := ZS_w3 x (List.mem_of_getElem? hx)
      have Ho2 : Hid (In64 x.mx) := o4
      obtain ⟨⟨E, e0⟩, hE⟩ : ∃ q, Z.encE x = q := ⟨_, rfl⟩
      have HE : Hid (Z.encE x = (E, e0)) := hE
      obtain ⟨rb, hrb⟩ : ∃ q, Z.right x = q := ⟨_, rfl⟩
      have Hrb : Hid (Z.right x = rb) := hrb
      obtain ⟨c0, c1, c2', c3, c4', c5, c6⟩ := (HS.out.below HXi.out).cells hx
      clear hx o1 o2 o3 o4 hE hrb
      go_wp2_with fail
      refine (z_enc x _ Hxm.out Hxx.out Ho1.out Ho2.out Hxw.out E e0 HE.out).mono ?_
      rintro e wb ⟨vb, rfl, ⟨a2, c2, rfl, hbb⟩, hxb⟩
      have HXb : Hid (Ex w2 wb) := HXi.out.trans hxb
      have HEb : Hid (Byt wb a2 c2 E) := hbb
      clear hbb hxb c0 c1 c2' c3 c4' c5 c6
      obtain ⟨c0, c1, c2', c3, c4', c5, c6⟩ := (HS.out.below HXb.out).cells Hx.out
      go_wp2_with fail
      refine (in_is x _).mono ?_
      rintro e wc ⟨rfl, hxc⟩
      have HXc : Hid (Ex wb wc) := hxc
      clear hxc
      simp only [zv]
      go_wp2_with fail
      refine (renc_own x _ Hxm.out Hxx.out Ho1.out Ho2.out E e0 HE.out).mono ?_
      rintro e we ⟨ve, rfl, hoe, hxe⟩
      obtain ⟨a4, c4, rfl, hbe⟩ := hoe.byt
      have HXe : Hid (Ex w2 we) := (HXb.out.trans HXc.out).trans hxe
      have HE7 : Hid (Byt we a2 c2 E) := (HEb.out.below HXc.out).below hxe
      have HF7 : Hid (Byt we a4 c4 E) := hbe
      have HS7 : Hid (ZsAt we gs ZS) := HS.out.below HXe.out
      clear hoe hxe hbe c0 c1 c2' c3 c4' c5 c6
      go_wp2_with fail
      have hre := Ex.refl
      refine Rg.wp_rows [.inl (Value.slice (some ⟨gs, 0, none⟩) 16 16), .inl (Value.int .i64 (i : Int)), .inl (Value.pointer (some ⟨gs, i * 7, none⟩)), .inl (zv x), .inl (.bool rb), .inl (Value.slice (some ⟨gs, 0, none⟩) 16 16), .inl (Value.int .i64 (i : Int)), .inl (Value.pointer (some ⟨gs, i * 7, none⟩)), .inl (zv x), .inl (zv x), .inl (.bool rb), .inl (.bool false), .inl (.bool false), .inl (Value.slice a2 E.length c2), .inl (Value.string (str E)), .inl (Value.slice a4 E.length c4), .inl (Value.string (str E)), .inl (.bool false), .inl (.bool false), .inl (.bool false), .inl (Value.int .i64 (e0 : Int)), .inl (Value.int .i64 (e0 : Int)), .inl (.bool false), .inl (.bool false)] (Ex we) Ex 189 (by kernel_rfl) rfl (by kernel_rfl) ?st hre (Ex.drew _) ?goods ?fin
      case st => exact trivial
      case goods =>
        refine Rg.goods_cons (Rg.good_move hre rfl rfl rfl) ?_
        refine Rg.goods_cons (Rg.good_move hre rfl rfl rfl) ?_
        refine Rg.goods_cons (Rg.good_index hre rfl rfl rfl rfl (fun wx hC => by go_simp)) ?_
        refine Rg.goods_cons (Rg.good_load hre rfl rfl rfl (fun wx hC => by exact loadI_zs (HS7.out.below hC) Hx.out)) ?_
        refine Rg.goods_cons (Rg.good_call1 Try.func12 (by kernel_rfl) rfl rfl rfl (by rintro u wx hC rfl; exact ex_row (z_right x wx Hxm.out Hxx.out Hxw.out rb Hrb.out) hC)) ?_
        refine Rg.goods_cons (Rg.good_move hre rfl rfl rfl) ?_
        refine Rg.goods_cons (Rg.good_move hre rfl rfl rfl) ?_
        refine Rg.goods_cons (Rg.good_index hre rfl rfl rfl rfl (fun wx hC => by go_simp)) ?_
        refine Rg.goods_cons (Rg.good_load hre rfl rfl rfl (fun wx hC => by exact loadI_zs (HS7.out.below hC) Hx.out)) ?_
        refine Rg.goods_cons (Rg.good_call1 Try.func11 (by kernel_rfl) rfl rfl rfl (by rintro u wx hC rfl; exact ex_row (in_is x wx) hC)) ?_
        refine Rg.goods_cons (Rg.good_call1 Try.func13 (by kernel_rfl) rfl rfl rfl (by rintro u wx hC rfl; exact ex_row (rright_is x wx Hxm.out Hxx.out rb Hrb.out) hC)) ?_
        refine Rg.goods_cons (Rg.good_bin hre rfl rfl rfl rfl (fun _ => rfl) (fun w => by cases rb <;> go_simp)) ?_
        refine Rg.goods_cons (Rg.good_move hre rfl rfl rfl) ?_
        refine Rg.goods_cons (Rg.good_move hre rfl rfl rfl) ?_
        refine Rg.goods_cons (Rg.good_conv hre rfl rfl (by rintro u wx hC rfl; exact run_str (HE7.out.below hC) rfl)) ?_
        refine Rg.goods_cons (Rg.good_move hre rfl rfl rfl) ?_
        refine Rg.goods_cons (Rg.good_conv hre rfl rfl (by rintro u wx hC rfl; exact run_str (HF7.out.below hC) rfl)) ?_
        refine Rg.goods_cons (Rg.good_bin hre rfl rfl rfl rfl (fun _ => rfl) (fun w => by go_simp)) ?_
        refine Rg.goods_cons (Rg.good_pick false hre rfl rfl rfl rfl) ?_
        refine Rg.goods_cons (Rg.good_move hre rfl rfl rfl) ?_
        refine Rg.goods_cons (Rg.good_move hre rfl rfl rfl) ?_
        refine Rg.goods_cons (Rg.good_move hre rfl rfl rfl) ?_
        refine Rg.goods_cons (Rg.good_bin hre rfl rfl rfl rfl (fun _ => rfl) (fun w => by go_simp)) ?_
        refine Rg.goods_cons (Rg.good_pick false hre rfl rfl rfl rfl) ?_
        exact Rg.goods_nil
      case fin =>
        intro wf hxf
        simp only [Rg.later, Act.put, List.setIfInBounds_toArray, List.set_cons_succ, List.set_cons_zero]
        have HXf : Hid (Ex w2 wf) := HXe.out.trans hxf
        clear hxf HE7 HF7 HS7
        simp only [zv]
        go_wp2_with fail
        go_loopw [7] (fun kv wr => ∃ k : Nat, k ≤ 16 ∧ kv = .int .i64 k ∧ Hid (Ex w2 wr)) (fun kv _ => 16 - (intOf kv).toNat)
        case atStart => exact ⟨0, by omega, rfl, HXf⟩
        case round =>
          obtain ⟨k, hk16, rfl, HXk⟩ := hrel
          by_cases hkl : k < 16
          · have htk : (k : Int) < 16 := by omega
            obtain ⟨y, hy⟩ : ∃ y, ZS[k]? = some y := ⟨_, List.getElem?_eq_getElem (show k < ZS.length from hkl)⟩
            have Hy : Hid (ZS[k]? = some y) := hy
            obtain ⟨o1, o2, _, _⟩ := ZS_ok y (List.mem_of_getElem? hy)
            have Hyw : Hid (Z.W3 y) := ZS_w3 y (List.mem_of_getElem? hy)
            have Hym : Hid (y.ms.length ≤ maxLen) := (by unfold maxLen; omega : y.ms.length ≤ maxLen)
            have Hyx : Hid (y.xs.length ≤ maxLen) := (by unfold maxLen; omega : y.xs.length ≤ maxLen)
            obtain ⟨⟨J, j0⟩, hJ⟩ : ∃ q, Z.join x y = q := ⟨_, rfl⟩
            have HJ : Hid (Z.join x y = (J, j0)) := hJ
            have HS8 : Hid (ZsAt wr gs ZS) := HS.out.below HXk.out
            clear hy hJ o1 o2
            go_wp2_with fail
            have hre := Ex.refl
            refine Rg.wp_rows_zone (t := 23) [.inl (Value.slice (some ⟨gs, 0, none⟩) 16 16), .inl (Value.int .i64 (i : Int)), .inl (Value.pointer (some ⟨gs, i * 7, none⟩)), .inl (zv x), .inl (Value.slice (some ⟨gs, 0, none⟩) 16 16), .inl (Value.int .i64 (k : Int)), .inl (Value.pointer (some ⟨gs, k * 7, none⟩)), .inl (zv y), .inl (.tuple #[zv J, .int .i64 (j0 : Int)]), .inl (.tuple #[zv J, .int .i64 (j0 : Int)]), .inl (zv J), .inl (Value.int .i64 (j0 : Int)), .inr (fun _ _ => True), .inr (fun _ _ => True), .inl (Value.int .i64 (j0 : Int))] 12 13 8 J 189 (by kernel_rfl) zvar23 rfl (by kernel_rfl) _ _ (.tmp 105) rfl rfl rfl rfl rfl rfl rfl rfl (by kernel_rfl) rfl rfl rfl ?st (by kernel_rfl) ?goods ?fin
            case st => exact ⟨fun _ _ _ _ _ => trivial, fun _ _ _ _ _ => trivial, trivial⟩
            case goods =>
              refine Rg.goodsB_cons (.inr <| Rg.good_move hre rfl rfl rfl) ?_
              refine Rg.goodsB_cons (.inr <| Rg.good_move hre rfl rfl rfl) ?_
              refine Rg.goodsB_cons (.inr <| Rg.good_index hre rfl rfl rfl rfl (fun wx hC => by go_simp)) ?_
              refine Rg.goodsB_cons (.inr <| Rg.good_load hre rfl rfl rfl (fun wx hC => by exact loadI_zs (HS8.out.below hC) Hx.out)) ?_
              refine Rg.goodsB_cons (.inr <| Rg.good_move hre rfl rfl rfl) ?_
              refine Rg.goodsB_cons (.inr <| Rg.good_move hre rfl rfl rfl) ?_
              refine Rg.goodsB_cons (.inr <| Rg.good_index hre rfl rfl rfl rfl (fun wx hC => by go_simp)) ?_
              refine Rg.goodsB_cons (.inr <| Rg.good_load hre rfl rfl rfl (fun wx hC => by exact loadI_zs (HS8.out.below hC) Hy.out)) ?_
              refine Rg.goodsB_cons (.inr <| Rg.good_call2 Try.func14 (by kernel_rfl) rfl rfl rfl (by rintro u u2 wx hC rfl rfl; exact ex_row (z_join x y wx Hxm.out Hxx.out Hym.out Hyx.out Hxw.out Hyw.out J j0 HJ.out) hC)) ?_
              refine Rg.goodsB_cons (.inr <| Rg.good_move hre rfl rfl rfl) ?_
              refine Rg.goodsB_cons (.inr <| Rg.good_extract hre rfl rfl rfl (fun w => by go_simp)) ?_
              refine Rg.goodsB_cons (.inr <| Rg.good_extract hre rfl rfl rfl (fun w => by go_simp)) ?_
              refine Rg.goodsB_cons (.inl rfl) ?_
              refine Rg.goodsB_cons (.inl rfl) ?_
              refine Rg.goodsB_cons (.inr <| Rg.good_assign hre rfl rfl rfl) ?_
              exact Rg.goodsB_nil
            case fin =>
              intro wm g8 hxm hz8
              simp only [Rg.later, Act.put, List.setIfInBounds_toArray, List.set_cons_succ, List.set_cons_zero]
              intro v8 _ hv8
              simp at hv8
              subst hv8
              have HXm : Hid (Ex w2 wm) := HXk.out.trans hxm
              have HS9 : Hid (ZsAt wm gs ZS) := HS.out.below HXm.out
              have HJm : Hid (ZAt wm g8 J 23) := hz8
              clear hxm hz8
              go_wp2_with fail
              have hre := Ex.refl
              refine Rg.wp_rows_zone (t := 31) [.inl (Value.slice (some ⟨gs, 0, none⟩) 16 16), .inl (Value.int .i64 (i : Int)), .inl (Value.pointer (some ⟨gs, i * 7, none⟩)), .inl (zv x), .inl (zv x), .inl (Value.slice (some ⟨gs, 0, none⟩) 16 16), .inl (Value.int .i64 (k : Int)), .inl (Value.pointer (some ⟨gs, k * 7, none⟩)), .inl (zv y), .inl (zv y), .inl (.tuple #[zv J, .int .i64 (j0 : Int)]), .inl (.tuple #[zv J, .int .i64 (j0 : Int)]), .inl (zv J), .inl (Value.int .i64 (j0 : Int)), .inr (fun _ _ => True), .inr (fun _ _ => True), .inl (Value.int .i64 (j0 : Int))] 14 15 10 J 189 (by kernel_rfl) zvar31 rfl (by kernel_rfl) _ _ (.tmp 119) rfl rfl rfl rfl rfl rfl rfl rfl (by kernel_rfl) rfl rfl rfl ?st (by kernel_rfl) ?goods ?fin
              case st => exact ⟨fun _ _ _ _ _ => trivial, fun _ _ _ _ _ => trivial, trivial⟩
              case goods =>
                refine Rg.goodsB_cons (.inr <| Rg.good_move hre rfl rfl rfl) ?_
                refine Rg.goodsB_cons (.inr <| Rg.good_move hre rfl rfl rfl) ?_
                refine Rg.goodsB_cons (.inr <| Rg.good_index hre rfl rfl rfl rfl (fun wx hC => by go_simp)) ?_
                refine Rg.goodsB_cons (.inr <| Rg.good_load hre rfl rfl rfl (fun wx hC => by exact loadI_zs (HS9.out.below hC) Hx.out)) ?_
                refine Rg.goodsB_cons (.inr <| Rg.good_call1 Try.func11 (by kernel_rfl) rfl rfl rfl (by rintro u wx hC rfl; exact ex_row (in_is x wx) hC)) ?_
                refine Rg.goodsB_cons (.inr <| Rg.good_move hre rfl rfl rfl) ?_
                refine Rg.goodsB_cons (.inr <| Rg.good_move hre rfl rfl rfl) ?_
                refine Rg.goodsB_cons (.inr <| Rg.good_index hre rfl rfl rfl rfl (fun wx hC => by go_simp)) ?_
                refine Rg.goodsB_cons (.inr <| Rg.good_load hre rfl rfl rfl (fun wx hC => by exact loadI_zs (HS9.out.below hC) Hy.out)) ?_
                refine Rg.goodsB_cons (.inr <| Rg.good_call1 Try.func11 (by kernel_rfl) rfl rfl rfl (by rintro u wx hC rfl; exact ex_row (in_is y wx) hC)) ?_
                refine Rg.goodsB_cons (.inr <| Rg.good_call2 Try.func15 (by kernel_rfl) rfl rfl rfl (by rintro u u2 wx hC rfl rfl; exact ex_row (rjoin_is x y wx Hxm.out Hxx.out Hym.out Hyx.out J j0 HJ.out) hC)) ?_
                refine Rg.goodsB_cons (.inr <| Rg.good_move hre rfl rfl rfl) ?_
                refine Rg.goodsB_cons (.inr <| Rg.good_extract hre rfl rfl rfl (fun w => by go_simp)) ?_
                refine Rg.goodsB_cons (.inr <| Rg.good_extract hre rfl rfl rfl (fun w => by go_simp)) ?_
                refine Rg.goodsB_cons (.inl rfl) ?_
                refine Rg.goodsB_cons (.inl rfl) ?_
                refine Rg.goodsB_cons (.inr <| Rg.good_assign hre rfl rfl rfl) ?_
                exact Rg.goodsB_nil
              case fin =>
                intro wn g10 hxn hz10
                simp only [Rg.later, Act.put, List.setIfInBounds_toArray, List.set_cons_succ, List.set_cons_zero]
                intro v10 _ hv10
                simp at hv10
                subst hv10
                have HXn : Hid (Ex w2 wn) := HXm.out.trans hxn
                have HJ8 : Hid (ZAt wn g8 J 23) := HJm.out.below hxn
                have HJ10 : Hid (ZAt wn g10 J 31) := hz10
                clear hxn hz10
                go_wp2_with fail
                have hre := Ex.refl
                refine Rg.wp_rows [.inl (zv J), .inl (zv J), .inl (zv J), .inl (.bool false), .inl (.bool false), .inl (Value.int .i64 (j0 : Int)), .inl (Value.int .i64 (j0 : Int)), .inl (.bool false), .inl (.bool false)] (Ex wn) Ex 189 (by kernel_rfl) rfl (by kernel_rfl) ?st hre (Ex.drew _) ?goods ?fin
                case st => exact trivial
                case goods =>
                  refine Rg.goods_cons (Rg.good_load hre rfl rfl rfl (fun wx hC => by exact loadI_zone (HJ8.out.below hC))) ?_
                  refine Rg.goods_cons (Rg.good_call1 Try.func11 (by kernel_rfl) rfl rfl rfl (by rintro u wx hC rfl; exact ex_row (in_is J wx) hC)) ?_
                  refine Rg.goods_cons (Rg.good_load hre rfl rfl rfl (fun wx hC => by exact rloadI_zone (HJ10.out.below hC))) ?_
                  refine Rg.goods_cons (Rg.good_bin hre rfl rfl rfl rfl (fun w => guard_zone _ _ _ J J w) (fun w => neq_zone J w)) ?_
                  refine Rg.goods_cons (Rg.good_move hre rfl rfl rfl) ?_
                  refine Rg.goods_cons (Rg.good_move hre rfl rfl rfl) ?_
                  refine Rg.goods_cons (Rg.good_move hre rfl rfl rfl) ?_
                  refine Rg.goods_cons (Rg.good_bin hre rfl rfl rfl rfl (fun _ => rfl) (fun w => by go_simp)) ?_
                  refine Rg.goods_cons (Rg.good_pick false hre rfl rfl rfl rfl) ?_
                  exact Rg.goods_nil
                case fin =>
                  intro wp hxp
                  simp only [Rg.later, Act.put, List.setIfInBounds_toArray, List.set_cons_succ, List.set_cons_zero]
                  have HXp : Hid (Ex w2 wp) := HXn.out.trans hxp
                  clear hxp
                  go_wp2_with fail
                  go_roundw
                  case rel => exact ⟨k + 1, by omega, by go_num, HXp⟩
                  case measure => simp [intOf]; omega
          · obtain rfl : k = 16 := by omega
            go_wp2_with fail
            go_roundw
            case rel => exact ⟨i + 1, by omega, by go_num, HXk⟩
            case measure => simp [intOf]; omega
    · obtain rfl : i = 16 := by omega
      go_wp2_with fail
      generalize hW : World.alloc _ _ = w9
      obtain ⟨h, hh⟩ : ∃ h, h = wr.heap.size := ⟨_, rfl⟩
      have hW2 : (lay wr BY).alloc (.cells ((VS h).map id).toArray 24) = w9 := by rw [hh]; exact hW
      have hls : (lay wr BY).heap.size = h + 10 := by rw [lay_size, hh]; rfl
      have hx0 : Ex (lay wr BY) w9 := by rw [← hW2]; exact (Below.refl _ _).alloc (Nat.le_refl _) _
      have HV : Hid (Rd id w9 (some ⟨h + 10, 0, none⟩) 11 (VS h)) := (by rw [← hW2, ← hls]; exact Rd.laid (enc := id) (lay wr BY) 24 (VS h) (by simp [VS]) : Rd id w9 (some ⟨h + 10, 0, none⟩) 11 (VS h))
      have HBy : Hid (∀ i l, BY[i]? = some l → l.length ≤ 1000 → Byt w9 (some ⟨h + i, 0, none⟩) l.length l) := (fun i l hi hl => by
        rw [hh]; exact (lay_byt BY wr i l hi hl).below hx0 : ∀ i l, BY[i]? = some l → l.length ≤ 1000 → Byt w9 (some ⟨h + i, 0, none⟩) l.length l)
      have HX9 : Hid (Ex w w9) := ((HX2.out.trans HXi.out).trans (lay_ex BY wr)).trans hx0
      rw [← hh]
      clear hW hW2 hls hx0 hh
      first | simp only [Nat.add_assoc, Nat.reduceAdd, Nat.cast_ofNat_Int] | simp only [Nat.add_assoc, Nat.reduceAdd, Int.natCast_ofNat] | simp only [Nat.add_assoc, Nat.reduceAdd, Int.cast_ofNat_Int]
      go_loopw [142] (fun i wr => ∃ k : Nat, k ≤ 11 ∧ i = .int .i64 k ∧ Hid (Ex w9 wr)) (fun i _ => 11 - (intOf i).toNat)
      case atStart => exact ⟨0, by omega, rfl, Ex.refl w9⟩
      case round =>
        obtain ⟨k, hk, rfl, HXk⟩ := hrel
        by_cases hlt : k < 11
        · obtain ⟨l, al, hvs, hal⟩ := VS_at h k hlt
          have hbl : Byt wr al l.length l := by
            rcases hal with ⟨rfl, rfl⟩ | ⟨j, h1, h2, rfl⟩
            · exact Byt.nil _
            · exact (HBy.out j l h1 h2).below HXk.out
          obtain ⟨b1, o1, hbo, hc⟩ := (HV.out.below HXk.out).2.2.2 k _ hvs
          simp only [Option.some.injEq, Addr.mk.injEq] at hbo
          obtain ⟨rfl, rfl, _⟩ := hbo
          have hcs : wr.cell? ⟨h + 10, k, none⟩ = some (.slice al l.length l.length) := by simpa using hc
          have HBk : Hid (Byt wr al l.length l) := hbl
          have hki : (k : Int) < 11 := by omega
          obtain ⟨⟨z5, k5, e5⟩, hq⟩ : ∃ r, Z.dec l 0 = r := ⟨_, rfl⟩
          have HDec : Hid (Z.dec l 0 = (z5, k5, e5)) := hq
          clear hc hvs hq hal hbl
          go_wp2_with fail
          refine (z_dec al _ _ l _ _ rfl HBk.out z5 k5 e5 HDec.out).mono ?_
          rintro e wd ⟨rfl, hxd⟩
          have hxad : Ex wd (wd.alloc (zb z5 23)) := (Below.refl _ _).alloc (Nat.le_refl _) _
          have HXd : Hid (Ex w9 (wd.alloc (zb z5 23))) := (HXk.out.trans hxd).trans hxad
          have HUd : Hid (ZAt (wd.alloc (zb z5 23)) wd.heap.size z5 23) := ZAt.new wd z5 23
          have HBd : Hid (Byt (wd.alloc (zb z5 23)) al l.length l) := (HBk.out.below hxd).below hxad
          clear hxd hxad
          simp only [zv]
          go_wp2_with fail
          refine (rdec_is al _ _ l _ _ rfl HBd.out z5 k5 e5 HDec.out).mono ?_
          rintro e wg ⟨rfl, hxg⟩
          have hxag : Ex wg (wg.alloc (zb z5 31)) := (Below.refl _ _).alloc (Nat.le_refl _) _
          obtain ⟨wz, hwz⟩ : ∃ wz, wz = wg.alloc (zb z5 31) := ⟨_, rfl⟩
          have HXz : Hid (Ex w9 wz) := (by rw [hwz]; exact (HXd.out.trans hxg).trans hxag : Ex w9 wz)
          have HU9 : Hid (ZAt wz wd.heap.size z5 23) := (by rw [hwz]; exact (HUd.out.below hxg).below hxag : ZAt wz wd.heap.size z5 23)
          have HW9 : Hid (ZAt wz wg.heap.size z5 31) := (by rw [hwz]; exact ZAt.new wg z5 31 : ZAt wz wg.heap.size z5 31)
          have HWW : Hid (wg.alloc (zb z5 31) = wz) := hwz.symm
          clear hxg hxag hwz
          simp only [zv]
          go_wp2_with fail
          have e9 := HWW.out
          rw [e9]
          clear e9
          have hre := Ex.refl
          refine Rg.wp_rows [.inl (zv z5), .inl (zv z5), .inl (zv z5), .inl (.bool false), .inl (.bool false), .inl (Value.int .i64 (k5 : Int)), .inl (Value.int .i64 (k5 : Int)), .inl (.bool false), .inl (.bool false), .inl (.bool false), .inl (Value.int .i64 (e5 : Int)), .inl (Value.int .i64 (e5 : Int)), .inl (.bool false), .inl (.bool false)] (Ex wz) Ex 189 (by kernel_rfl) rfl (by kernel_rfl) ?st hre (Ex.drew _) ?goods ?fin
          case st => exact trivial
          case goods =>
            refine Rg.goods_cons (Rg.good_load hre rfl rfl rfl (fun wx hC => by exact loadI_zone (HU9.out.below hC))) ?_
            refine Rg.goods_cons (Rg.good_call1 Try.func11 (by kernel_rfl) rfl rfl rfl (by rintro u wx hC rfl; exact ex_row (in_is z5 wx) hC)) ?_
            refine Rg.goods_cons (Rg.good_load hre rfl rfl rfl (fun wx hC => by exact rloadI_zone (HW9.out.below hC))) ?_
            refine Rg.goods_cons (Rg.good_bin hre rfl rfl rfl rfl (fun w => guard_zone _ _ _ z5 z5 w) (fun w => neq_zone z5 w)) ?_
            refine Rg.goods_cons (Rg.good_move hre rfl rfl rfl) ?_
            refine Rg.goods_cons (Rg.good_move hre rfl rfl rfl) ?_
            refine Rg.goods_cons (Rg.good_move hre rfl rfl rfl) ?_
            refine Rg.goods_cons (Rg.good_bin hre rfl rfl rfl rfl (fun _ => rfl) (fun w => by go_simp)) ?_
            refine Rg.goods_cons (Rg.good_pick false hre rfl rfl rfl rfl) ?_
            refine Rg.goods_cons (Rg.good_move hre rfl rfl rfl) ?_
            refine Rg.goods_cons (Rg.good_move hre rfl rfl rfl) ?_
            refine Rg.goods_cons (Rg.good_move hre rfl rfl rfl) ?_
            refine Rg.goods_cons (Rg.good_bin hre rfl rfl rfl rfl (fun _ => rfl) (fun w => by go_simp)) ?_
            refine Rg.goods_cons (Rg.good_pick false hre rfl rfl rfl rfl) ?_
            exact Rg.goods_nil
          case fin =>
            intro wx hxx
            simp only [Rg.later, Act.put, List.setIfInBounds_toArray, List.set_cons_succ, List.set_cons_zero]
            have HXx : Hid (Ex w9 wx) := HXz.out.trans hxx
            clear hxx
            go_wp2_with fail
            go_roundw
            case rel => exact ⟨k + 1, by omega, by go_num, HXx⟩
            case measure => simp [intOf]; omega
        · obtain rfl : k = 11 := by omega
          go_wp2_with fail
          refine (z_dec none _ 0 [] _ _ rfl (Byt.nil _) Z.zero 0 1 dec_five).mono ?_
          rintro e wd ⟨rfl, hxd⟩
          have HXd : Hid (Ex w wd) := (HX9.out.trans HXk.out).trans hxd
          clear hxd
          simp only [zv, Z.zero]
          go_wp2_with fail
          refine (z_build 2 none _ 0 [] _ rfl (RdC.nil _)).mono ?_
          rintro e we ⟨rfl, hxe⟩
          rw [build_none]
          have HXe : Hid (Ex w we) := (HXd.out.trans ((Below.refl _ _).alloc (Nat.le_refl _) _)).trans hxe
          clear hxe
          go_wp2_with fail
          refine (in_is ⟨2, 0, 0, 0, 0, [], []⟩ _).mono ?_
          rintro e wf ⟨rfl, hxf⟩
          have HXf : Hid (Ex w wf) := HXe.out.trans hxf
          have hst := str_toList []
          clear hxf
          simp only [zv]
          go_wp2_with fail
          refine (known_any _).mono ?_
          rintro e wk ⟨rfl, hxk⟩
          go_wp2_with fail
          go_ret
          exact ⟨rfl, HXf.out.trans hxk⟩
end zoneNumbers
end Go.Proofs.Ytnfbmffafclaaaa
