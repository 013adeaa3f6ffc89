/-
  The laws' own known. A chunk beside its own cells, as a law asks it.
-/
import Derived.Test.YtnmonoafjijfhaaGreatM49
namespace Go.Proofs.YtnmonoafjijfhaaGreat
open Go.RowKit
set_option linter.unusedVariables false
set_option linter.unusedSimpArgs false
set_option maxHeartbeats 8000000 in
set_option maxRecDepth 100000 in
theorem known_is (w : World) : Calls Tryz.prog 14 #[] w fun e w' => e = .returned (.bool true) ∧ Ex w w' := by
  obtain ⟨W, hW⟩ : ∃ W, W = w.alloc (.cells (flat cc K3).toArray 28) := ⟨_, rfl⟩
  have HX : Hid (Ex w W) := (by rw [hW]; exact (Below.refl _ _).alloc (Nat.le_refl _) _ : Ex w W)
  have HR : Hid (RdC W (some ⟨w.heap.size, 0, none⟩) 3 K3) := (by rw [hW]; exact RdW.laid (t := 28) cc_len w K3 (by simp [K3]) : RdC W (some ⟨w.heap.size, 0, none⟩) 3 K3)
  have HW : Hid (W = w.alloc (.cells #[.string { data := #[] }, .int .i64 1, .int .i64 5, .string { data := #[] }, .string { data := #[] }, .int .i64 0, .int .i64 0, .string { data := #[] }, .string { data := #[] }, .int .i64 1, .int .i64 7, .string { data := #[] }] 28)) := (by rw [hW]; rfl : W = w.alloc (.cells #[.string { data := #[] }, .int .i64 1, .int .i64 5, .string { data := #[] }, .string { data := #[] }, .int .i64 0, .int .i64 0, .string { data := #[] }, .string { data := #[] }, .int .i64 1, .int .i64 7, .string { data := #[] }] 28))
  obtain ⟨r, e0, hr⟩ : ∃ r e, Ck.encE 1 K3 = (r, e) := ⟨_, _, rfl⟩
  have HEnc : Hid (Ck.encE 1 K3 = (r, e0)) := hr
  have h0 : e0 = 0 ∧ Holds 1 K3 r := Holds.of (.inl rfl) (by simp [K3]) k3_nrm hr
  obtain ⟨rfl, hH⟩ := h0
  have HH : Hid (Holds 1 K3 r) := hH
  clear hW hr hH
  go_enter Tryz.func14, Tryz.ntmps14
  go_wp2_with fail
  rw [← HW.out]
  refine (encode_is 1 (some ⟨w.heap.size, 0, none⟩) 3 3 K3 W rfl HR.out (nrm_all k3_nrm).2.2 r 0 HEnc.out).mono ?_
  rintro e1 w1 ⟨v, rfl, ho1, hx1⟩
  obtain ⟨a1, c1, rfl, hb1⟩ := ho1.byt
  have hlr : r.length ≤ 140737488355328 := by have := HH.out.short; omega
  obtain ⟨nr, hnr⟩ : ∃ nr, r.length = nr := ⟨_, rfl⟩
  rw [hnr]
  have HNr : Hid (r.length = nr) := hnr
  have HLr : Hid (r.length ≤ 140737488355328) := hlr
  have HB1 : Hid (Byt w1 a1 c1 r) := hb1
  have HX1 : Hid (Ex w w1) := HX.out.trans hx1
  have HR1 : Hid (RdC w1 (some ⟨w.heap.size, 0, none⟩) 3 K3) := HR.out.below hx1
  have HS1 : Hid (W.heap.size ≤ w1.heap.size ∧ W.heap.size = w.heap.size + 1) := ⟨hx1.size, by rw [HW.out]; simp⟩
  clear ho1 hx1 hb1 hlr hnr
  go_wp2_with fail
  refine (open_is a1 nr c1 r w1 HNr.out.symm HB1.out HLr.out).mono ?_
  rintro e2 w2 ⟨v2, rfl, hop, hx2⟩
  obtain ⟨g, fp, rfl, hok, hu, hg, hfp⟩ := hop.1 HH.out.good
  have HOk : Hid (Ok r) := hok
  have HC : Hid (Chk w2 g r fp) := .inl hu
  have HG : Hid (w1.heap.size ≤ g ∧ ∀ q, fp q → w1.heap.size ≤ q) := ⟨hg, hfp⟩
  have HX2 : Hid (Ex w w2) := HX1.out.trans hx2
  have HR2 : Hid (RdC w2 (some ⟨w.heap.size, 0, none⟩) 3 K3) := HR1.out.below hx2
  clear hop hx2 hok hu hg hfp
  go_wp2_with fail
  refine (rows_is g r fp w2 HC.out).mono ?_
  rintro e3 w3 ⟨rfl, rfl⟩
  have hl3 : ((LC r).length : Int) = 3 := by rw [HH.out.cells]; rfl
  rw [hl3]
  clear hl3
  go_wp2_with fail
  refine (kind_is g r fp w3 HC.out).mono ?_
  rintro e4 w4 ⟨rfl, rfl⟩
  rw [HH.out.kind]
  go_wp2_with fail
  obtain ⟨W5, hW5⟩ : ∃ W5, W5 = w4.alloc (.cells #[Value.int IntKind.i64 0, Value.int IntKind.i64 1, Value.int IntKind.i64 2] 3) := ⟨_, rfl⟩
  rw [← hW5]
  have hx5 : Ex w4 W5 := by rw [hW5]; exact (Below.refl _ _).alloc (Nat.le_refl _) _
  have hL5 : Rd z64 W5 (some ⟨w4.heap.size, 0, none⟩) 3 [0, 1, 2] := by
    rw [hW5]
    exact Rd.laid (enc := z64) w4 3 [0, 1, 2] (by simp)
  have hgl := HC.out.lt
  refine (pick_is g r fp (some ⟨w4.heap.size, 0, none⟩) 3 3 [0, 1, 2] W5 (HC.out.below hx5) HOk.out rfl hL5 (fun _ q off he => by simp only [Option.some.injEq, Addr.mk.injEq] at he; omega) (by simp)).mono ?_
  rintro e6 w6 ⟨hh, rfl, hp⟩
  obtain ⟨fp6, _, _, hrow, hhl, hg6⟩ := hp
  have hm : ([0, 1, 2] : List Int).map (LA r) = K3 := by
    have h1 := HH.out.at_ 0 (by simp [K3])
    have h2 := HH.out.at_ 1 (by simp [K3])
    have h3 := HH.out.at_ 2 (by simp [K3])
    simp only [List.map_cons, List.map_nil]
    exact congr (congrArg List.cons h1) (congr (congrArg List.cons h2) (congrArg (fun x => [x]) h3))
  rw [hm] at hrow
  have HRow : Hid (CRow w6 hh K3) := hrow
  have HR6 : Hid (RdC w6 (some ⟨w.heap.size, 0, none⟩) 3 K3) := RdW.far (HR2.out.below hx5) hg6 (fun _ q off he hh => by simp only [Option.some.injEq, Addr.mk.injEq] at he hh; have h1 := HG.out.1; have h2 := HS1.out; omega)
  have HX6 : Hid (Ex w w6) := Below.grown (HX2.out.trans hx5) hg6 (HX2.out.trans hx5).size (fun k hk => by simp only [Option.some.injEq] at hk; have h1 := HG.out.1; have h2 := HS1.out; omega)
  clear hrow hhl hg6 hm hL5 hx5 hW5 hgl
  go_wp2_with fail
  refine (cells_is (some ⟨hh, 0, none⟩) 3 3 K3 (some ⟨w.heap.size, 0, none⟩) 3 3 K3 w6 rfl rfl (HRow.out.rd rfl (by omega)) HR6.out true (by simp)).mono ?_
  rintro e7 w7 ⟨rfl, hx7⟩
  go_wp2_with fail
  go_ret
  exact ⟨rfl, HX6.out.trans hx7⟩
end Go.Proofs.YtnmonoafjijfhaaGreat
namespace Go.Proofs.YtnmonoafjijfhaaGreat
open Go.RowKit
set_option linter.unusedVariables false
set_option linter.unusedSimpArgs false
/-- The chunk g of the bytes b, and the cells X that stand beside it, behind the world w. -/
def BackC (w : World) (g : Nat) (b : List UInt8) (a : Option Addr) (cap : Nat) (X : List Ce) (wx : World) : Prop :=
  (∃ fp, Chk wx g b fp ∧ ∀ q, fp q → w.heap.size ≤ q) ∧ RdC wx a cap X ∧ Ex w wx ∧ w.heap.size ≤ g ∧ (0 < X.length → ∀ q off, a = some ⟨q, off, none⟩ → q ≠ g)
section
variable {w wx w' : World} {g : Nat} {b : List UInt8} {a : Option Addr} {cap : Nat} {X : List Ce}
theorem BackC.below (h : BackC w g b a cap X wx) (hx : Ex wx w') : BackC w g b a cap X w' := by
  obtain ⟨⟨fp, h1, h2⟩, h3, h4, h5, h6⟩ := h
  exact ⟨⟨fp, h1.below hx, h2⟩, h3.below hx, h4.trans hx, h5, h6⟩
theorem BackC.after {fp : Nat → Prop} (h : BackC w g b a cap X wx) (hf : ∀ q, fp q → w.heap.size ≤ q) (ha : After wx w' g b fp) : BackC w g b a cap X w' := by
  obtain ⟨_, h3, h4, h5, h6⟩ := h
  obtain ⟨fp', h7, h8, h9⟩ := ha
  have hs := h4.size
  refine ⟨⟨fp', h7, fun q hq => (h8 q hq).elim (hf q) (fun h => by omega)⟩, RdW.far h3 h9 (fun h0 q off he hh => h6 h0 q off he (by simp only [Option.some.injEq] at hh; omega)), Below.grown h4 h9 hs (fun k hk => by simp only [Option.some.injEq] at hk; omega), h5, h6⟩
theorem BackC.cell (h : BackC w g b a cap X wx) (hok : Ok b) (I : Int) : Calls Tryz.prog 22 #[.pointer (some ⟨g, 0, none⟩), .int .i64 I] wx fun e w' => e = .returned (cv (LA b I)) ∧ BackC w g b a cap X w' := by
  obtain ⟨⟨fp, h1, h2⟩, h3⟩ := id h
  refine (cell_is g b fp I wx h1 hok).mono ?_
  rintro e w' ⟨rfl, ha⟩
  exact ⟨rfl, h.after h2 ha⟩
theorem BackC.load (h : BackC w g b a cap X wx) {i q off : Nat} (hi : i < X.length) (ha : a = some ⟨q, off, none⟩) : (Instr.loadAt 28 (.pointer (some ⟨q, off + i * 4, none⟩))).run Tryz.prog wx = .ok (cv X[i]) wx := by
  obtain ⟨q', off', he, f0, f1, f2, f3⟩ := RdC.four h.2.1 hi
  rw [ha] at he
  simp only [Option.some.injEq, Addr.mk.injEq, and_true] at he
  obtain ⟨rfl, rfl⟩ := he
  exact loadI_cell f0 f1 f2 f3
end
end Go.Proofs.YtnmonoafjijfhaaGreat
