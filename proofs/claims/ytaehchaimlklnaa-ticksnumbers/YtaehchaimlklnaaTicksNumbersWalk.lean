/-
  The walk of TicksNumbers.
-/
import Derived.Test.YtaehchaimlklnaaTicksTellsWalk
namespace Go.Proofs.Ytaehchaimlklnaa.ticksNumbers
open Go.RowKit Go.Proofs.Ytaehchaimlklnaa
set_option linter.unusedVariables false
set_option linter.unusedSimpArgs false
set_option maxRecDepth 100000 in
set_option maxHeartbeats 16000000 in
theorem walk (w : World) : Calls Try.prog 3 #[] w fun e w' => e = .returned (.bool true) ∧ Below w.heap.size w w' := by
  have hO0 : OwnR 2 z64 w w.heap.size (.slice none 0 0) [] := ⟨by simp, .inl ⟨rfl, rfl⟩⟩
  go_enter Try.func3, Try.ntmps3
  go_wp2_with fail
  go_loopw [1, 2] (fun v i wr => ∃ j : Nat, j ≤ 14 ∧ i = .int .i64 j ∧ Hid (∃ l : List Int, l.length = j ∧ (∀ x ∈ l, D.ok x) ∧ OwnR 2 z64 wr w.heap.size v l) ∧ Hid (Ex w wr)) (fun _ i _ => 14 - (intOf i).toNat)
  case atStart => exact ⟨0, by omega, rfl, (⟨[], rfl, by simp, hO0⟩ : ∃ l : List Int, l.length = 0 ∧ (∀ x ∈ l, D.ok x) ∧ OwnR 2 z64 w w.heap.size (.slice none 0 0) l), Ex.refl _⟩
  case round =>
    obtain ⟨j, hj, rfl, HV, HXr⟩ := hrel
    clear hO0
    by_cases hlt : j < 14
    · obtain ⟨wo, hwo⟩ : ∃ wo, wo = wr := ⟨_, rfl⟩
      subst hwo
      obtain ⟨L, hLl, hLx, hO⟩ := HV.out
      have tj : decide ((j : Int) < 14) = true := by simp; omega
      have tj2 : decide (j < 14) = true := by simp; omega
      have HO : Hid (OwnR 2 z64 wo w.heap.size u1 L) := hO
      obtain ⟨aL, cL, hvL, hrL⟩ := hO.rd
      subst hvL
      have HRL : Hid (Rd z64 wo aL cL L) := hrL
      have HLl : Hid (L.length = j) := hLl
      have hL1 : L.length ≤ 14 := by omega
      have HOkL : Hid (∀ x ∈ L, D.ok x) := hLx
      obtain ⟨⟨⟨XR, XM, XA⟩, c⟩, hbu⟩ : ∃ z, Tk.build L = z := ⟨_, rfl⟩
      have HBu : Hid (Tk.build L = (⟨XR, XM, XA⟩, c)) := hbu
      obtain ⟨hXAl, hxr, hxm, hxo⟩ := Tk.build_ok hbu (by omega) hLx
      simp only at hXAl hxr hxm hxo
      have HXR : Hid (D.ok XR) := hxr
      have HXM : Hid (D.ok XM) := hxm
      have HXO : Hid (∀ x ∈ XA, D.ok x) := hxo
      clear HV hO hrL hLl hLx hbu hxr hxm hxo
      go_wp2_with fail
      refine (t_build aL _ cL L _ rfl HRL.out HOkL.out (by omega) ⟨XR, XM, XA⟩ c HBu.out).mono ?_
      rintro e wb ⟨af, cf, rfl, hbf, hxf⟩
      simp only at hbf
      obtain ⟨wf, hwwf⟩ : ∃ wf, wb.alloc (Obj.cells #[Value.int IntKind.i64 XR, Value.int IntKind.i64 XM, Value.slice af XA.length cf] 24) = wf := ⟨_, rfl⟩
      have hxwf : Ex wb wf := by rw [← hwwf]; exact (Below.refl _ _).alloc (Nat.le_refl _) _
      have HFwf : Hid (XAt wf wb.heap.size XR XM (.slice af XA.length cf) 24) := (by rw [← hwwf]; exact XAt.new wb XR XM _ 24 : XAt wf wb.heap.size XR XM (.slice af XA.length cf) 24)
      have HBf : Hid (Rd z64 wf af cf XA) := hbf.below hxwf
      have HXf : Hid (Ex wo wf) := hxf.trans hxwf
      clear hbf hxf hxwf
      simp only [xv]
      go_wp2_with fail
      refine (rt_build aL _ cL L _ rfl (HRL.out.below HXf.out) ⟨XR, XM, XA⟩ c HBu.out).mono ?_
      rintro e wc ⟨ag, cg, rfl, hbg, hxg⟩
      simp only at hbg
      obtain ⟨wg, hwwg⟩ : ∃ wg, wc.alloc (Obj.cells #[Value.int IntKind.i64 XR, Value.int IntKind.i64 XM, Value.slice ag XA.length cg] 28) = wg := ⟨_, rfl⟩
      have hxwg : Ex wc wg := by rw [← hwwg]; exact (Below.refl _ _).alloc (Nat.le_refl _) _
      have HFwg : Hid (XAt wg wc.heap.size XR XM (.slice ag XA.length cg) 28) := (by rw [← hwwg]; exact XAt.new wc XR XM _ 28 : XAt wg wc.heap.size XR XM (.slice ag XA.length cg) 28)
      have HXfg : Hid (Ex wf wg) := hxg.trans hxwg
      have HBg : Hid (Rd z64 wg ag cg XA) := hbg.below hxwg
      have HBfg : Hid (Rd z64 wg af cf XA) := HBf.out.below HXfg.out
      have HFfg : Hid (XAt wg wb.heap.size XR XM (.slice af XA.length cf) 24) := HFwf.out.below HXfg.out
      have HXg0 : Hid (Ex wo wg) := HXf.out.trans HXfg.out
      obtain ⟨j0, j1, j2⟩ := HFfg.out.all
      obtain ⟨k0, k1, k2⟩ := HFwg.out.all
      clear hbg hxg hxwg hwwf
      simp only [xv]
      go_wp2_with fail
      refine (alike_is XR XM af _ cf XA ag _ cg _ rfl rfl HBfg.out HBg.out).mono ?_
      rintro e wh ⟨rfl, hxh⟩
      have HXgh : Hid (Ex wg wh) := hxh
      clear hxh j0 j1 j2 k0 k1 k2 hwwg
      go_wp2_with fail
      go_loopw [7] (fun i wq => ∃ lo : Int, -1 ≤ lo ∧ lo ≤ 16 ∧ i = .int .i64 lo ∧ Hid (Ex wh wq)) (fun i _ => (16 - intOf i).toNat)
      case atStart => exact ⟨-1, by omega, by omega, rfl, Ex.refl _⟩
      case round =>
        obtain ⟨lo, hlo1, hlo2, rfl, HXq⟩ := hrel
        by_cases hlo : lo < 16
        · have tl : decide (lo < 16) = true := by simp; omega
          go_wp2_with fail
          go_loopw [8] (fun i wq => ∃ hi : Int, -1 ≤ hi ∧ hi ≤ 16 ∧ i = .int .i64 hi ∧ Hid (Ex wh wq)) (fun i _ => (16 - intOf i).toNat)
          case atStart => exact ⟨-1, by omega, by omega, rfl, HXq⟩
          case round =>
            clear HXq
            obtain ⟨hi, hhi1, hhi2, rfl, HXq⟩ := hrel
            by_cases hhi : hi < 16
            · have th : decide (hi < 16) = true := by simp; omega
              obtain ⟨⟨sp, sq⟩, hspan⟩ : ∃ z, Tk.span ⟨XR, XM, XA⟩ lo hi = z := ⟨_, rfl⟩
              have HSp : Hid (Tk.span ⟨XR, XM, XA⟩ lo hi = (sp, sq)) := hspan
              obtain ⟨g0, g1, g2⟩ := (HFfg.out.below (HXgh.out.trans HXq.out)).all
              clear hspan
              go_wp2_with fail
              refine (t_span XR XM af _ cf XA lo hi _ rfl (HBfg.out.below (HXgh.out.trans HXq.out)) HXO.out (by omega) HXR.out HXM.out ⟨by omega, by omega⟩ ⟨by omega, by omega⟩ sp sq HSp.out).mono ?_
              rintro e wu ⟨rfl, hxu⟩
              have HXu : Hid (Ex wh wu) := HXq.out.trans hxu
              obtain ⟨g0', g1', g2'⟩ := (HFwg.out.below (HXgh.out.trans HXu.out)).all
              clear hxu g0 g1 g2
              go_wp2_with fail
              refine (rts_is XR XM ag _ cg XA lo hi _ rfl (HBg.out.below (HXgh.out.trans HXu.out)) HXR.out.1 HXR.out.2 sp sq HSp.out).mono ?_
              rintro e wv ⟨rfl, hxv⟩
              have HXv : Hid (Ex wh wv) := HXu.out.trans hxv
              clear hxv g0' g1' g2'
              go_wp2_with fail
              go_roundw
              case rel => exact ⟨hi + 1, by omega, by omega, by go_num, HXv⟩
              case measure => simp [intOf]; omega
            · have th : decide (hi < 16) = false := by simp; omega
              go_wp2_with fail
              go_roundw
              case rel => exact ⟨lo + 1, by omega, by omega, by go_num, HXq⟩
              case measure => simp [intOf]; omega
        · have tl : decide (lo < 16) = false := by simp; omega
          obtain ⟨d1, hd1⟩ : ∃ d : Nat, (j : Int) / 2 = (d : Int) := ⟨j / 2, by omega⟩
          obtain ⟨d2, hd2⟩ : ∃ d : Nat, (d1 : Int) * 2 = (d : Int) := ⟨d1 * 2, by omega⟩
          have hd3 : d2 ≤ 30 := by omega
          have hXl : Ex wo wr := HXg0.out.trans (HXgh.out.trans HXq.out)
          have hOq : OwnR 2 z64 wr w.heap.size (.slice aL L.length cL) L := HO.out.later hXl
          have hXw : Ex w wr := HXr.out.trans hXl
          have hsz : w.heap.size ≤ wr.heap.size := hXw.size
          go_wp2_with (at_builtin; refine wpList_append_rd (e := 2) (enc := z64) rfl (.tmp 83) (.tmp 87) 22 rfl 0 8 Try.underlying22 Try.info2 rfl (fun _ => rfl) w.heap.size _ L rfl (hOq.alloc _) _ _ _ [(d2 : Int)] rfl rfl (Rd.laid wr 2 [(d2 : Int)] (by simp)) (by simp [maxLen]; omega) (by simp; omega) (by simp; omega) ?_; intro v9 w9 ho9 hg9; have X9 : Ex w w9 := step_belowR (Below.alloc hXw hsz _) (by simp; omega) (hOq.alloc _) hg9; clear hg9)
          have HX9 : Hid (Ex w w9) := X9
          have HV9 : Hid (∃ l : List Int, l.length = j + 1 ∧ (∀ x ∈ l, D.ok x) ∧ OwnR 2 z64 w9 w.heap.size v9 l) := (⟨L ++ [(d2 : Int)], by simp; exact HLl.out, fun x hx => by
            rcases List.mem_append.1 hx with h | h
            · exact HOkL.out x h
            · have : x = (d2 : Int) := by simpa using h
              rw [this]; exact ⟨by omega, by omega⟩, ho9⟩ : ∃ l : List Int, l.length = j + 1 ∧ (∀ x ∈ l, D.ok x) ∧ OwnR 2 z64 w9 w.heap.size v9 l)
          clear ho9 X9 hOq hXw hXl
          go_wp2_with fail
          go_roundw
          case rel => exact ⟨j + 1, by omega, by go_num, HV9, HX9⟩
          case measure => simp [intOf]; omega
    · obtain rfl : j = 14 := by omega
      rw [show ((14 : Nat) : Int) = (14 : Int) from rfl]
      have tj : decide ((14 : Int) < 14) = false := by simp
      clear HV
      obtain ⟨wl, hwl⟩ : ∃ wl, wl = wr := ⟨_, rfl⟩
      have HXl : Hid (Ex w wl) := (by rw [hwl]; exact HXr.out : Ex w wl)
      rw [← hwl]
      clear hwl HXr
      obtain ⟨x1, hwx1⟩ : ∃ x1, wl.alloc (Obj.cells #[Value.int IntKind.i64 5] 2) = x1 := ⟨_, rfl⟩
      have Xx1 : Ex wl x1 := by rw [← hwx1]; exact (Below.refl _ _).alloc (Nat.le_refl _) _
      have Rx1 : Rd z64 x1 (some ⟨wl.heap.size, 0, none⟩) 1 [5] := by rw [← hwx1]; exact Rd.laid (enc := z64) wl 2 [5] (by simp)
      obtain ⟨x2, hwx2⟩ : ∃ x2, x1.alloc (Obj.cells #[Value.int IntKind.i64 5] 2) = x2 := ⟨_, rfl⟩
      have Xx2 : Ex x1 x2 := by rw [← hwx2]; exact (Below.refl _ _).alloc (Nat.le_refl _) _
      have Rx2 : Rd z64 x2 (some ⟨x1.heap.size, 0, none⟩) 1 [5] := by rw [← hwx2]; exact Rd.laid (enc := z64) x1 2 [5] (by simp)
      obtain ⟨x3, hwx3⟩ : ∃ x3, x2.alloc (Obj.cells #[Value.int IntKind.i64 5] 2) = x3 := ⟨_, rfl⟩
      have Xx3 : Ex x2 x3 := by rw [← hwx3]; exact (Below.refl _ _).alloc (Nat.le_refl _) _
      have Rx3 : Rd z64 x3 (some ⟨x2.heap.size, 0, none⟩) 1 [5] := by rw [← hwx3]; exact Rd.laid (enc := z64) x2 2 [5] (by simp)
      obtain ⟨x4, hwx4⟩ : ∃ x4, x3.alloc (Obj.cells #[Value.int IntKind.i64 5] 2) = x4 := ⟨_, rfl⟩
      have Xx4 : Ex x3 x4 := by rw [← hwx4]; exact (Below.refl _ _).alloc (Nat.le_refl _) _
      have Rx4 : Rd z64 x4 (some ⟨x3.heap.size, 0, none⟩) 1 [5] := by rw [← hwx4]; exact Rd.laid (enc := z64) x3 2 [5] (by simp)
      obtain ⟨x5, hwx5⟩ : ∃ x5, x4.alloc (Obj.cells #[Value.int IntKind.i64 5, Value.int IntKind.i64 4] 2) = x5 := ⟨_, rfl⟩
      have Xx5 : Ex x4 x5 := by rw [← hwx5]; exact (Below.refl _ _).alloc (Nat.le_refl _) _
      have Rx5 : Rd z64 x5 (some ⟨x4.heap.size, 0, none⟩) 2 [5, 4] := by rw [← hwx5]; exact Rd.laid (enc := z64) x4 2 [5, 4] (by simp)
      obtain ⟨x6, hwx6⟩ : ∃ x6, x5.alloc (Obj.cells #[Value.int IntKind.i64 5, Value.int IntKind.i64 6] 2) = x6 := ⟨_, rfl⟩
      have Xx6 : Ex x5 x6 := by rw [← hwx6]; exact (Below.refl _ _).alloc (Nat.le_refl _) _
      have Rx6 : Rd z64 x6 (some ⟨x5.heap.size, 0, none⟩) 2 [5, 6] := by rw [← hwx6]; exact Rd.laid (enc := z64) x5 2 [5, 6] (by simp)
      obtain ⟨wp, hwp⟩ : ∃ wp, x6.alloc (Obj.cells #[Value.int IntKind.i64 1, Value.int IntKind.i64 0, Value.slice none 0 0, Value.int IntKind.i64 1, Value.int IntKind.i64 5, Value.slice (some ⟨wl.heap.size, 0, none⟩) 1 1, Value.int IntKind.i64 1, Value.int IntKind.i64 6, Value.slice (some ⟨x1.heap.size, 0, none⟩) 1 1, Value.int IntKind.i64 2, Value.int IntKind.i64 6, Value.slice (some ⟨x2.heap.size, 0, none⟩) 1 1, Value.int IntKind.i64 2, Value.int IntKind.i64 4, Value.slice (some ⟨x3.heap.size, 0, none⟩) 1 1, Value.int IntKind.i64 0, Value.int IntKind.i64 1, Value.slice none 0 0, Value.int IntKind.i64 (-1), Value.int IntKind.i64 0, Value.slice none 0 0, Value.int IntKind.i64 5, Value.int IntKind.i64 4, Value.slice (some ⟨x4.heap.size, 0, none⟩) 2 2, Value.int IntKind.i64 4, Value.int IntKind.i64 7, Value.slice (some ⟨x5.heap.size, 0, none⟩) 2 2] 24) = wp := ⟨_, rfl⟩
      have XP : Ex x6 wp := by rw [← hwp]; exact (Below.refl _ _).alloc (Nat.le_refl _) _
      have hblk : wp.heap[x6.heap.size]? = some (.cells [Value.int IntKind.i64 1, Value.int IntKind.i64 0, Value.slice none 0 0, Value.int IntKind.i64 1, Value.int IntKind.i64 5, Value.slice (some ⟨wl.heap.size, 0, none⟩) 1 1, Value.int IntKind.i64 1, Value.int IntKind.i64 6, Value.slice (some ⟨x1.heap.size, 0, none⟩) 1 1, Value.int IntKind.i64 2, Value.int IntKind.i64 6, Value.slice (some ⟨x2.heap.size, 0, none⟩) 1 1, Value.int IntKind.i64 2, Value.int IntKind.i64 4, Value.slice (some ⟨x3.heap.size, 0, none⟩) 1 1, Value.int IntKind.i64 0, Value.int IntKind.i64 1, Value.slice none 0 0, Value.int IntKind.i64 (-1), Value.int IntKind.i64 0, Value.slice none 0 0, Value.int IntKind.i64 5, Value.int IntKind.i64 4, Value.slice (some ⟨x4.heap.size, 0, none⟩) 2 2, Value.int IntKind.i64 4, Value.int IntKind.i64 7, Value.slice (some ⟨x5.heap.size, 0, none⟩) 2 2].toArray 24 (0, 0)) := by rw [← hwp]; exact heap_alloc_new x6 _
      have hcel : ∀ k, wp.cell? ⟨x6.heap.size, k, none⟩ = [Value.int IntKind.i64 1, Value.int IntKind.i64 0, Value.slice none 0 0, Value.int IntKind.i64 1, Value.int IntKind.i64 5, Value.slice (some ⟨wl.heap.size, 0, none⟩) 1 1, Value.int IntKind.i64 1, Value.int IntKind.i64 6, Value.slice (some ⟨x1.heap.size, 0, none⟩) 1 1, Value.int IntKind.i64 2, Value.int IntKind.i64 6, Value.slice (some ⟨x2.heap.size, 0, none⟩) 1 1, Value.int IntKind.i64 2, Value.int IntKind.i64 4, Value.slice (some ⟨x3.heap.size, 0, none⟩) 1 1, Value.int IntKind.i64 0, Value.int IntKind.i64 1, Value.slice none 0 0, Value.int IntKind.i64 (-1), Value.int IntKind.i64 0, Value.slice none 0 0, Value.int IntKind.i64 5, Value.int IntKind.i64 4, Value.slice (some ⟨x4.heap.size, 0, none⟩) 2 2, Value.int IntKind.i64 4, Value.int IntKind.i64 7, Value.slice (some ⟨x5.heap.size, 0, none⟩) 2 2][k]? := fun k => by
        rw [cell_of_row wp _ k _ 24 (0, 0) hblk, List.getElem?_toArray]
      have HXp : Hid (Ex w wp) := HXl.out.trans (Xx1.trans (Xx2.trans (Xx3.trans (Xx4.trans (Xx5.trans (Xx6.trans XP))))))
      have HEach : Hid (∀ j, j < 9 → ∃ (rx mx : Int) (ax : Option Addr) (nx cx : Nat) (lx : List Int), wp.cell? ⟨x6.heap.size, j * 3, none⟩ = some (.int .i64 rx) ∧ wp.cell? ⟨x6.heap.size, j * 3 + 1, none⟩ = some (.int .i64 mx) ∧ wp.cell? ⟨x6.heap.size, j * 3 + 2, none⟩ = some (.slice ax nx cx) ∧ nx = lx.length ∧ Rd z64 wp ax cx lx ∧ lx.length ≤ 60 ∧ D.ok rx ∧ D.ok mx ∧ ∀ x ∈ lx, D.ok x) := (by
        intro j hj
        match j, hj with
        | 0, _ => exact ⟨1, 0, none, 0, 0, [], hcel 0, hcel 1, hcel 2, rfl, Rd.nil _, by simp, ⟨by omega, by omega⟩, ⟨by omega, by omega⟩, by simp⟩
        | 1, _ => exact ⟨1, 5, some ⟨wl.heap.size, 0, none⟩, 1, 1, [5], hcel 3, hcel 4, hcel 5, rfl, Rx1.below (Xx2.trans (Xx3.trans (Xx4.trans (Xx5.trans (Xx6.trans XP))))), by simp, ⟨by omega, by omega⟩, ⟨by omega, by omega⟩, by simp [D.ok]⟩
        | 2, _ => exact ⟨1, 6, some ⟨x1.heap.size, 0, none⟩, 1, 1, [5], hcel 6, hcel 7, hcel 8, rfl, Rx2.below (Xx3.trans (Xx4.trans (Xx5.trans (Xx6.trans XP)))), by simp, ⟨by omega, by omega⟩, ⟨by omega, by omega⟩, by simp [D.ok]⟩
        | 3, _ => exact ⟨2, 6, some ⟨x2.heap.size, 0, none⟩, 1, 1, [5], hcel 9, hcel 10, hcel 11, rfl, Rx3.below (Xx4.trans (Xx5.trans (Xx6.trans XP))), by simp, ⟨by omega, by omega⟩, ⟨by omega, by omega⟩, by simp [D.ok]⟩
        | 4, _ => exact ⟨2, 4, some ⟨x3.heap.size, 0, none⟩, 1, 1, [5], hcel 12, hcel 13, hcel 14, rfl, Rx4.below (Xx5.trans (Xx6.trans XP)), by simp, ⟨by omega, by omega⟩, ⟨by omega, by omega⟩, by simp [D.ok]⟩
        | 5, _ => exact ⟨0, 1, none, 0, 0, [], hcel 15, hcel 16, hcel 17, rfl, Rd.nil _, by simp, ⟨by omega, by omega⟩, ⟨by omega, by omega⟩, by simp⟩
        | 6, _ => exact ⟨-1, 0, none, 0, 0, [], hcel 18, hcel 19, hcel 20, rfl, Rd.nil _, by simp, ⟨by omega, by omega⟩, ⟨by omega, by omega⟩, by simp⟩
        | 7, _ => exact ⟨5, 4, some ⟨x4.heap.size, 0, none⟩, 2, 2, [5, 4], hcel 21, hcel 22, hcel 23, rfl, Rx5.below (Xx6.trans XP), by simp, ⟨by omega, by omega⟩, ⟨by omega, by omega⟩, by simp [D.ok]⟩
        | 8, _ => exact ⟨4, 7, some ⟨x5.heap.size, 0, none⟩, 2, 2, [5, 6], hcel 24, hcel 25, hcel 26, rfl, Rx6.below XP, by simp, ⟨by omega, by omega⟩, ⟨by omega, by omega⟩, by simp [D.ok]⟩ : ∀ j, j < 9 → ∃ (rx mx : Int) (ax : Option Addr) (nx cx : Nat) (lx : List Int), wp.cell? ⟨x6.heap.size, j * 3, none⟩ = some (.int .i64 rx) ∧ wp.cell? ⟨x6.heap.size, j * 3 + 1, none⟩ = some (.int .i64 mx) ∧ wp.cell? ⟨x6.heap.size, j * 3 + 2, none⟩ = some (.slice ax nx cx) ∧ nx = lx.length ∧ Rd z64 wp ax cx lx ∧ lx.length ≤ 60 ∧ D.ok rx ∧ D.ok mx ∧ ∀ x ∈ lx, D.ok x)
      clear hblk hcel XP Xx1 Rx1 Xx2 Rx2 Xx3 Rx3 Xx4 Rx4 Xx5 Rx5 Xx6 Rx6
      go_wp2_with fail
      go_loopw [106] (fun i wr => ∃ j : Nat, j ≤ 9 ∧ i = .int .i64 j ∧ Hid (Ex wp wr)) (fun i _ => 9 - (intOf i).toNat)
      case atStart => exact ⟨0, by omega, rfl, Ex.refl _⟩
      case round =>
        obtain ⟨j, hj, rfl, HXr⟩ := hrel
        clear hwp hwx1 hwx2 hwx3 hwx4 hwx5 hwx6
        by_cases hlt : j < 9
        · obtain ⟨rx, mx, ax, nx, cx, lx, hc0, hc1, hc2, hnx0, hbx, hlx, hrx, hmx, hox⟩ := HEach.out j hlt
          have hc0' := cell_ex hc0 HXr.out
          have hc1' := cell_ex hc1 HXr.out
          have hc2' := cell_ex hc2 HXr.out
          have HBx : Hid (Rd z64 wr ax cx lx) := hbx.below HXr.out
          have HNx : Hid (nx = lx.length) := hnx0
          have HRx : Hid (D.ok rx) := hrx
          have HMx : Hid (D.ok mx) := hmx
          have HOx : Hid (∀ x ∈ lx, D.ok x) := hox
          have hcx := hbx.1
          have hcx2 := hbx.2.1
          unfold maxLen at hcx2
          have hnx1 : nx ≤ lx.length := by omega
          have hnx2 : lx.length ≤ nx := by omega
          have tj : decide ((j : Int) < 9) = true := by simp; omega
          have tj2 : decide (j < 9) = true := by simp; omega
          obtain ⟨w5, hww5⟩ : ∃ w5, wr.alloc (Obj.cells #[Value.int IntKind.i64 rx, Value.int IntKind.i64 mx, Value.slice ax nx cx] 24) = w5 := ⟨_, rfl⟩
          have hxw5 : Ex wr w5 := by rw [← hww5]; exact (Below.refl _ _).alloc (Nat.le_refl _) _
          have HFw5 : Hid (XAt w5 wr.heap.size rx mx (.slice ax nx cx) 24) := (by rw [← hww5]; exact XAt.new wr rx mx _ 24 : XAt w5 wr.heap.size rx mx (.slice ax nx cx) 24)
          have HX5 : Hid (Ex wr w5) := hxw5
          have HB5 : Hid (Rd z64 w5 ax cx lx) := HBx.out.below hxw5
          obtain ⟨g0, g1, g2⟩ := HFw5.out.all
          obtain ⟨⟨Cb, e0⟩, henc⟩ : ∃ z, Tk.encE ⟨rx, mx, lx⟩ = z := ⟨_, rfl⟩
          have HEnc : Hid (Tk.encE ⟨rx, mx, lx⟩ = (Cb, e0)) := henc
          obtain ⟨rr, hrr⟩ : ∃ rr, Tk.right ⟨rx, mx, lx⟩ = rr := ⟨_, rfl⟩
          have HRr : Hid (Tk.right ⟨rx, mx, lx⟩ = rr) := hrr
          clear hc0 hc1 hc2 hbx hxw5 henc hrr hrx hmx hox hnx0
          go_wp2_with fail
          refine (t_enc rx mx ax nx cx lx _ HNx.out HB5.out HOx.out (by omega) HRx.out HMx.out Cb e0 HEnc.out).mono ?_
          rintro e w6 ⟨v6, rfl, ⟨ac, cc, hv6, hbc⟩, hxc⟩
          subst hv6
          have HX6 : Hid (Ex w5 w6) := hxc
          have HC6 : Hid (Byt w6 ac cc Cb) := hbc
          obtain ⟨g0', g1', g2'⟩ := (HFw5.out.below hxc).all
          clear hbc hxc g0 g1 g2 hc0' hc1' hc2' hww5
          go_wp2_with fail
          refine (in_is rx mx ax nx cx _).mono ?_
          rintro e w7 ⟨rfl, hx7⟩
          have HX7 : Hid (Ex w5 w7) := HX6.out.trans hx7
          have HC7 : Hid (Byt w7 ac cc Cb) := HC6.out.below hx7
          clear hx7 g0' g1' g2'
          simp only [xv]
          go_wp2_with fail
          refine (rte_is rx mx ax nx cx lx _ HNx.out (HB5.out.below HX7.out) HOx.out HRx.out.1 HRx.out.2 HMx.out.1 HMx.out.2 Cb e0 HEnc.out).mono ?_
          rintro e w8 ⟨v7, rfl, ⟨ad, cd, hv7, hbd⟩, hxd⟩
          subst hv7
          have HX8 : Hid (Ex w5 w8) := HX7.out.trans hxd
          have HC8 : Hid (Byt w8 ac cc Cb) := HC7.out.below hxd
          have HD8 : Hid (Byt w8 ad cd Cb) := hbd
          have HF8 : Hid (XAt w8 wr.heap.size rx mx (.slice ax nx cx) 24) := HFw5.out.below HX8.out
          have HB8 : Hid (Rd z64 w8 ax cx lx) := HB5.out.below HX8.out
          have HXr8 : Hid (Ex wp w8) := HXr.out.trans (HX5.out.trans HX8.out)
          clear hbd hxd
          go_wp2_with fail
          have hre := Ex.refl
          have hnx : nx = lx.length := HNx.out
          refine Rg.wp_rows [.inl (xv rx mx (.slice ax nx cx)), .inl (.bool rr), .inl (xv rx mx (.slice ax nx cx)), .inl (xv rx mx (.slice ax nx cx)), .inl (.bool rr), .inl (.bool false), .inl (.bool false), .inl (Value.slice ac Cb.length cc), .inl (Value.string (str Cb)), .inl (Value.slice ad Cb.length cd), .inl (Value.string (str Cb)), .inl (.bool false), .inl (.bool false), .inl (.bool false), .inl (Value.int .i64 e0), .inl (Value.int .i64 e0), .inl (.bool false), .inl (.bool false)] (Ex w8) Ex 189 (by kernel_rfl) rfl (by kernel_rfl) ?st hre (Ex.drew _) ?goods ?fin
          case st => exact trivial
          case goods =>
            refine Rg.goods_cons (Rg.good_load hre rfl rfl rfl (fun wx hC => by exact load_ixI (.inl rfl) (HF8.out.below hC))) ?_
            refine Rg.goods_cons (Rg.good_call1 Try.func17 (by kernel_rfl) rfl rfl rfl (by rintro u wx hC rfl; exact ex_row (t_right rx mx ax nx cx lx wx hnx (HB8.out.below hC) HOx.out (by omega) HRx.out HMx.out rr HRr.out) hC)) ?_
            refine Rg.goods_cons (Rg.good_load hre rfl rfl rfl (fun wx hC => by exact load_ixI (.inl rfl) (HF8.out.below hC))) ?_
            refine Rg.goods_cons (Rg.good_call1 Try.func16 (by kernel_rfl) rfl rfl rfl (by rintro u wx hC rfl; exact ex_row (in_is rx mx ax nx cx wx) hC)) ?_
            refine Rg.goods_cons (Rg.good_call1 Try.func18 (by kernel_rfl) rfl rfl rfl (by rintro u wx hC rfl; exact ex_row (rtr_is rx mx ax nx cx lx wx hnx (HB8.out.below hC) HRx.out.1 HRx.out.2 rr HRr.out) hC)) ?_
            refine Rg.goods_cons (Rg.good_bin hre rfl rfl rfl rfl (fun _ => rfl) (fun w => by cases rr <;> go_simp)) ?_
            refine Rg.goods_cons (Rg.good_move hre rfl rfl rfl) ?_
            refine Rg.goods_cons (Rg.good_move hre rfl rfl rfl) ?_
            refine Rg.goods_cons (Rg.good_conv hre rfl rfl (by rintro u wx hC rfl; exact run_str (HC8.out.below hC) rfl)) ?_
            refine Rg.goods_cons (Rg.good_move hre rfl rfl rfl) ?_
            refine Rg.goods_cons (Rg.good_conv hre rfl rfl (by rintro u wx hC rfl; exact run_str (HD8.out.below hC) rfl)) ?_
            refine Rg.goods_cons (Rg.good_bin hre rfl rfl rfl rfl (fun _ => rfl) (fun w => by go_simp)) ?_
            refine Rg.goods_cons (Rg.good_pick false hre rfl rfl rfl rfl) ?_
            refine Rg.goods_cons (Rg.good_move hre rfl rfl rfl) ?_
            refine Rg.goods_cons (Rg.good_move hre rfl rfl rfl) ?_
            refine Rg.goods_cons (Rg.good_move hre rfl rfl rfl) ?_
            refine Rg.goods_cons (Rg.good_bin hre rfl rfl rfl rfl (fun _ => rfl) (fun w => by go_simp)) ?_
            refine Rg.goods_cons (Rg.good_pick false hre rfl rfl rfl rfl) ?_
            exact Rg.goods_nil
          case fin =>
            intro wx hx
            simp only [Rg.later, Act.put, List.setIfInBounds_toArray, List.set_cons_succ, List.set_cons_zero]
            have HXx : Hid (Ex wp wx) := HXr8.out.trans hx
            clear hx hnx
            go_wp2_with fail
            go_roundw
            case rel => exact ⟨j + 1, by omega, by go_num, HXx⟩
            case measure => simp [intOf]; omega
        · obtain rfl : j = 9 := by omega
          rw [show ((9 : Nat) : Int) = (9 : Int) from rfl]
          have tj : decide ((9 : Int) < 9) = false := by simp
          obtain ⟨y1, hwy1⟩ : ∃ y1, wr.alloc (Obj.cells #[Value.int IntKind.u8 0, Value.int IntKind.u8 0, Value.int IntKind.u8 0] 5) = y1 := ⟨_, rfl⟩
          have Xy1 : Ex wr y1 := by rw [← hwy1]; exact (Below.refl _ _).alloc (Nat.le_refl _) _
          have Ry1 : Byt y1 (some ⟨wr.heap.size, 0, none⟩) 3 [0, 0, 0] := by rw [← hwy1]; exact Byt.laid wr [0, 0, 0] (by simp)
          obtain ⟨y2, hwy2⟩ : ∃ y2, y1.alloc (Obj.cells #[Value.int IntKind.u8 1, Value.int IntKind.u8 10, Value.int IntKind.u8 1, Value.int IntKind.u8 10] 5) = y2 := ⟨_, rfl⟩
          have Xy2 : Ex y1 y2 := by rw [← hwy2]; exact (Below.refl _ _).alloc (Nat.le_refl _) _
          have Ry2 : Byt y2 (some ⟨y1.heap.size, 0, none⟩) 4 [1, 10, 1, 10] := by rw [← hwy2]; exact Byt.laid y1 [1, 10, 1, 10] (by simp)
          obtain ⟨y3, hwy3⟩ : ∃ y3, y2.alloc (Obj.cells #[Value.int IntKind.u8 1, Value.int IntKind.u8 10, Value.int IntKind.u8 1, Value.int IntKind.u8 12] 5) = y3 := ⟨_, rfl⟩
          have Xy3 : Ex y2 y3 := by rw [← hwy3]; exact (Below.refl _ _).alloc (Nat.le_refl _) _
          have Ry3 : Byt y3 (some ⟨y2.heap.size, 0, none⟩) 4 [1, 10, 1, 12] := by rw [← hwy3]; exact Byt.laid y2 [1, 10, 1, 12] (by simp)
          obtain ⟨y4, hwy4⟩ : ∃ y4, y3.alloc (Obj.cells #[Value.int IntKind.u8 2, Value.int IntKind.u8 10, Value.int IntKind.u8 1, Value.int IntKind.u8 8] 5) = y4 := ⟨_, rfl⟩
          have Xy4 : Ex y3 y4 := by rw [← hwy4]; exact (Below.refl _ _).alloc (Nat.le_refl _) _
          have Ry4 : Byt y4 (some ⟨y3.heap.size, 0, none⟩) 4 [2, 10, 1, 8] := by rw [← hwy4]; exact Byt.laid y3 [2, 10, 1, 8] (by simp)
          obtain ⟨y5, hwy5⟩ : ∃ y5, y4.alloc (Obj.cells #[Value.int IntKind.u8 1, Value.int IntKind.u8 10] 5) = y5 := ⟨_, rfl⟩
          have Xy5 : Ex y4 y5 := by rw [← hwy5]; exact (Below.refl _ _).alloc (Nat.le_refl _) _
          have Ry5 : Byt y5 (some ⟨y4.heap.size, 0, none⟩) 2 [1, 10] := by rw [← hwy5]; exact Byt.laid y4 [1, 10] (by simp)
          obtain ⟨y6, hwy6⟩ : ∃ y6, y5.alloc (Obj.cells #[Value.int IntKind.u8 129, Value.int IntKind.u8 128, Value.int IntKind.u8 64, Value.int IntKind.u8 0, Value.int IntKind.u8 0] 5) = y6 := ⟨_, rfl⟩
          have Xy6 : Ex y5 y6 := by rw [← hwy6]; exact (Below.refl _ _).alloc (Nat.le_refl _) _
          have Ry6 : Byt y6 (some ⟨y5.heap.size, 0, none⟩) 5 [129, 128, 64, 0, 0] := by rw [← hwy6]; exact Byt.laid y5 [129, 128, 64, 0, 0] (by simp)
          obtain ⟨wz, hwz⟩ : ∃ wz, y6.alloc (Obj.cells #[Value.slice none 0 0, Value.slice (some ⟨wr.heap.size, 0, none⟩) 3 3, Value.slice (some ⟨y1.heap.size, 0, none⟩) 4 4, Value.slice (some ⟨y2.heap.size, 0, none⟩) 4 4, Value.slice (some ⟨y3.heap.size, 0, none⟩) 4 4, Value.slice (some ⟨y4.heap.size, 0, none⟩) 2 2, Value.slice (some ⟨y5.heap.size, 0, none⟩) 5 5] 36) = wz := ⟨_, rfl⟩
          have XQ : Ex y6 wz := by rw [← hwz]; exact (Below.refl _ _).alloc (Nat.le_refl _) _
          have hblk2 : wz.heap[y6.heap.size]? = some (.cells [Value.slice none 0 0, Value.slice (some ⟨wr.heap.size, 0, none⟩) 3 3, Value.slice (some ⟨y1.heap.size, 0, none⟩) 4 4, Value.slice (some ⟨y2.heap.size, 0, none⟩) 4 4, Value.slice (some ⟨y3.heap.size, 0, none⟩) 4 4, Value.slice (some ⟨y4.heap.size, 0, none⟩) 2 2, Value.slice (some ⟨y5.heap.size, 0, none⟩) 5 5].toArray 36 (0, 0)) := by rw [← hwz]; exact heap_alloc_new y6 _
          have hcel2 : ∀ k, wz.cell? ⟨y6.heap.size, k, none⟩ = [Value.slice none 0 0, Value.slice (some ⟨wr.heap.size, 0, none⟩) 3 3, Value.slice (some ⟨y1.heap.size, 0, none⟩) 4 4, Value.slice (some ⟨y2.heap.size, 0, none⟩) 4 4, Value.slice (some ⟨y3.heap.size, 0, none⟩) 4 4, Value.slice (some ⟨y4.heap.size, 0, none⟩) 2 2, Value.slice (some ⟨y5.heap.size, 0, none⟩) 5 5][k]? := fun k => by
            rw [cell_of_row wz _ k _ 36 (0, 0) hblk2, List.getElem?_toArray]
          have HXz : Hid (Ex w wz) := (HXp.out.trans HXr.out).trans (Xy1.trans (Xy2.trans (Xy3.trans (Xy4.trans (Xy5.trans (Xy6.trans XQ))))))
          have HEach2 : Hid (∀ j, j < 7 → ∃ (ax : Option Addr) (nx cx : Nat) (lx : List UInt8), wz.cell? ⟨y6.heap.size, j, none⟩ = some (.slice ax nx cx) ∧ nx = lx.length ∧ Byt wz ax cx lx ∧ lx.length ≤ 100) := (by
            intro j hj
            match j, hj with
            | 0, _ => exact ⟨none, 0, 0, [], hcel2 0, rfl, Byt.nil _, by simp⟩
            | 1, _ => exact ⟨some ⟨wr.heap.size, 0, none⟩, 3, 3, [0, 0, 0], hcel2 1, rfl, Ry1.below (Xy2.trans (Xy3.trans (Xy4.trans (Xy5.trans (Xy6.trans XQ))))), by simp⟩
            | 2, _ => exact ⟨some ⟨y1.heap.size, 0, none⟩, 4, 4, [1, 10, 1, 10], hcel2 2, rfl, Ry2.below (Xy3.trans (Xy4.trans (Xy5.trans (Xy6.trans XQ)))), by simp⟩
            | 3, _ => exact ⟨some ⟨y2.heap.size, 0, none⟩, 4, 4, [1, 10, 1, 12], hcel2 3, rfl, Ry3.below (Xy4.trans (Xy5.trans (Xy6.trans XQ))), by simp⟩
            | 4, _ => exact ⟨some ⟨y3.heap.size, 0, none⟩, 4, 4, [2, 10, 1, 8], hcel2 4, rfl, Ry4.below (Xy5.trans (Xy6.trans XQ)), by simp⟩
            | 5, _ => exact ⟨some ⟨y4.heap.size, 0, none⟩, 2, 2, [1, 10], hcel2 5, rfl, Ry5.below (Xy6.trans XQ), by simp⟩
            | 6, _ => exact ⟨some ⟨y5.heap.size, 0, none⟩, 5, 5, [129, 128, 64, 0, 0], hcel2 6, rfl, Ry6.below XQ, by simp⟩ : ∀ j, j < 7 → ∃ (ax : Option Addr) (nx cx : Nat) (lx : List UInt8), wz.cell? ⟨y6.heap.size, j, none⟩ = some (.slice ax nx cx) ∧ nx = lx.length ∧ Byt wz ax cx lx ∧ lx.length ≤ 100)
          clear hblk2 hcel2 XQ Xy1 Ry1 Xy2 Ry2 Xy3 Ry3 Xy4 Ry4 Xy5 Ry5 Xy6 Ry6
          go_wp2_with fail
          go_loopw [148] (fun i wr => ∃ j : Nat, j ≤ 7 ∧ i = .int .i64 j ∧ Hid (Ex wz wr)) (fun i _ => 7 - (intOf i).toNat)
          case atStart => exact ⟨0, by omega, rfl, Ex.refl _⟩
          case round =>
            obtain ⟨j, hj, rfl, HXr⟩ := hrel
            clear hwz hwy1 hwy2 hwy3 hwy4 hwy5 hwy6
            by_cases hlt : j < 7
            · obtain ⟨ax, nx, cx, lx, hc0, hnx0, hbx, hlx⟩ := HEach2.out j hlt
              have hc0' := cell_ex hc0 HXr.out
              have HBx : Hid (Byt wr ax cx lx) := hbx.below HXr.out
              have HNx : Hid (nx = lx.length) := hnx0
              have tj : decide ((j : Int) < 7) = true := by simp; omega
              have tj2 : decide (j < 7) = true := by simp; omega
              obtain ⟨⟨⟨YR, YM, YA⟩, k2, e2⟩, hdec⟩ : ∃ z, Tk.dec lx 0 = z := ⟨_, rfl⟩
              have HD2 : Hid (Tk.dec lx 0 = (⟨YR, YM, YA⟩, k2, e2)) := hdec
              clear hdec hc0 hnx0 hbx
              go_wp2_with fail
              refine (t_dec ax _ cx lx _ _ HNx.out HBx.out (by omega) ⟨by omega, by omega⟩ ⟨YR, YM, YA⟩ k2 e2 HD2.out).mono ?_
              rintro e wd ⟨ah, ch, rfl, hbh, hxh⟩
              simp only at hbh
              obtain ⟨wq, hwwq⟩ : ∃ wq, wd.alloc (Obj.cells #[Value.int IntKind.i64 YR, Value.int IntKind.i64 YM, Value.slice ah YA.length ch] 24) = wq := ⟨_, rfl⟩
              have hxwq : Ex wd wq := by rw [← hwwq]; exact (Below.refl _ _).alloc (Nat.le_refl _) _
              have HFwq : Hid (XAt wq wd.heap.size YR YM (.slice ah YA.length ch) 24) := (by rw [← hwwq]; exact XAt.new wd YR YM _ 24 : XAt wq wd.heap.size YR YM (.slice ah YA.length ch) 24)
              have HXq : Hid (Ex wr wq) := hxh.trans hxwq
              have HBq : Hid (Rd z64 wq ah ch YA) := hbh.below hxwq
              clear hbh hxh hxwq
              simp only [xv]
              go_wp2_with fail
              refine (rt_dec ax _ cx lx _ _ HNx.out (HBx.out.below HXq.out) (by omega) ⟨YR, YM, YA⟩ k2 e2 HD2.out).mono ?_
              rintro e we ⟨ai, ci, rfl, hbi, hxi⟩
              simp only at hbi
              obtain ⟨wi, hwwi⟩ : ∃ wi, we.alloc (Obj.cells #[Value.int IntKind.i64 YR, Value.int IntKind.i64 YM, Value.slice ai YA.length ci] 28) = wi := ⟨_, rfl⟩
              have hxwi : Ex we wi := by rw [← hwwi]; exact (Below.refl _ _).alloc (Nat.le_refl _) _
              have HFwi : Hid (XAt wi we.heap.size YR YM (.slice ai YA.length ci) 28) := (by rw [← hwwi]; exact XAt.new we YR YM _ 28 : XAt wi we.heap.size YR YM (.slice ai YA.length ci) 28)
              have HXqi : Hid (Ex wq wi) := hxi.trans hxwi
              have HBi : Hid (Rd z64 wi ai ci YA) := hbi.below hxwi
              have HBqi : Hid (Rd z64 wi ah ch YA) := HBq.out.below HXqi.out
              have HXi : Hid (Ex wz wi) := HXr.out.trans (HXq.out.trans HXqi.out)
              obtain ⟨i0, i1, i2⟩ := HFwi.out.all
              obtain ⟨j0, j1, j2⟩ := (HFwq.out.below HXqi.out).all
              clear hbi hxi hxwi hwwq hc0'
              simp only [xv]
              go_wp2_with fail
              refine (alike_is YR YM ah _ ch YA ai _ ci _ rfl rfl HBqi.out HBi.out).mono ?_
              rintro e wj ⟨rfl, hxj⟩
              have HXj : Hid (Ex wz wj) := HXi.out.trans hxj
              clear hxj i0 i1 i2 j0 j1 j2 hwwi
              go_wp2_with fail
              go_roundw
              case rel => exact ⟨j + 1, by omega, by go_num, HXj⟩
              case measure => simp [intOf]; omega
            · obtain rfl : j = 7 := by omega
              rw [show ((7 : Nat) : Int) = (7 : Int) from rfl]
              have tj : decide ((7 : Int) < 7) = false := by simp
              go_wp2_with fail
              refine (t_dec none 0 0 [] 1 _ rfl (Byt.nil _) (by simp) ⟨by omega, by omega⟩ Tk.zero 0 1 (by rfl)).mono ?_
              rintro e wd ⟨ah, ch, rfl, hbh, hxh⟩
              have HXd : Hid (Ex w wd) := HXz.out.trans (HXr.out.trans hxh)
              clear hbh hxh
              simp only [xv, Tk.zero, List.length_nil]
              go_wp2_with fail
              refine (known_any _).mono ?_
              rintro e wk ⟨rfl, hxk⟩
              go_wp2_with fail
              go_ret
              exact ⟨rfl, HXd.out.trans (Ex.trans ((Below.refl _ _).alloc (Nat.le_refl _) _) hxk)⟩
end Go.Proofs.Ytaehchaimlklnaa.ticksNumbers
