/-
  The landed values; Kind, Rows, Cell, Dict. The landed chunk's Cell, Dict. The landed chunk's Pick.
-/
import Derived.Test.YtnmonoafjijfhaaGreatM47
namespace Go.Proofs.YtnmonoafjijfhaaGreat
open Go.RowKit
set_option linter.unusedVariables false
set_option linter.unusedSimpArgs false
set_option maxRecDepth 100000 in
set_option maxHeartbeats 4000000 in
theorem do_first (p g : Nat) (b : List UInt8) (K R : Int) (bs : SV) (w : World) (hp : w.cell? ⟨p, 0, none⟩ = some (.pointer (some ⟨g, 0, none⟩))) (hpg : p ≠ g) (hC : ChS w g K R 0 0 bs 0 n0 n0) (hB : IsB b bs w) (hbs : 0 < bs.2.1 → ∀ q, (sv bs).ownBlock = some q → q ≠ g) (hok : Ok b) :
    Calls Tryz.prog 93 #[.pointer (some ⟨g, 2, none⟩), .func (.func 94) #[] #[.pointer (some ⟨p, 0, none⟩)]] w fun e w' => e = .returned (.tuple #[]) ∧ Laid w w' g b K R 1 0 := by
  have hnot : ∀ (x : Bool) (w : World), (Op.unary .not (.bool x)).run Tryz.prog w = .ok (.bool (!x)) w := fun _ _ => rfl
  have HS := slow_is p g b K R bs w hp hpg hC hB hbs hok
  have HL := o_load ⟨g, 2, none⟩ 0 false w (hC.cell 2) rfl
  have HS' : Hid (Calls Tryz.prog 116 #[.pointer (some ⟨g, 2, none⟩), .func (.func 94) #[] #[.pointer (some ⟨p, 0, none⟩)]] w fun e w' => e = .returned (.tuple #[]) ∧ Laid w w' g b K R 1 0) := HS
  have HL' : Hid (Calls Tryz.prog 115 #[.pointer (some ⟨g, 2, none⟩)] w fun e w' => e = .returned (.bool false) ∧ w' = w) := HL
  clear HS HL hp hC hB hbs hok
  go_enter Tryz.func93, Tryz.ntmps93
  go_wp2_with fail
  go_at_call 115
  refine Calls.mono HL'.out ?_
  rintro e wq ⟨rfl, hwq⟩
  have hwq' := hwq.symm; clear hwq; subst hwq'
  go_wp2_with fail
  go_at_call 116
  refine Calls.mono HS'.out ?_
  rintro e w2 ⟨rfl, h2⟩
  go_wp2_with fail
  go_end0
  exact ⟨rfl, h2⟩
theorem do_done (g : Nat) (fv : Value) (w : World) (h : w.cell? ⟨g, 2, none⟩ = some (.int .u32 1)) :
    Calls Tryz.prog 93 #[.pointer (some ⟨g, 2, none⟩), fv] w fun e w' => e = .returned (.tuple #[]) ∧ w' = w := by
  have hnot : ∀ (x : Bool) (w : World), (Op.unary .not (.bool x)).run Tryz.prog w = .ok (.bool (!x)) w := fun _ _ => rfl
  have HL' : Hid (Calls Tryz.prog 115 #[.pointer (some ⟨g, 2, none⟩)] w fun e w' => e = .returned (.bool true) ∧ w' = w) := o_load ⟨g, 2, none⟩ 1 true w h rfl
  clear h
  go_enter Tryz.func93, Tryz.ntmps93
  go_wp2_with fail
  go_at_call 115
  refine Calls.mono HL'.out ?_
  rintro e wq ⟨rfl, hwq⟩
  have hwq' := hwq.symm; clear hwq; subst hwq'
  go_wp2_with fail
  go_end0
  exact ⟨rfl, rfl⟩
/-- Behind a question the chunk is read; nothing old has turned but its own block. -/
def Asked (w w' : World) (g : Nat) (b : List UInt8) (fp : Nat → Prop) : Prop := ∃ fp' : Nat → Prop, ChD w' g b fp' ∧ (∀ q, fp' q → fp q ∨ w.heap.size ≤ q) ∧ w.grownBy w' (some g)
set_option maxRecDepth 100000 in
set_option maxHeartbeats 4000000 in
theorem values_d (g : Nat) (b : List UInt8) (fp : Nat → Prop) (w : World) (h : ChD w g b fp) :
    Calls Tryz.prog 56 #[.pointer (some ⟨g, 0, none⟩)] w fun e w' => e = .returned (.pointer (some ⟨g, 6, none⟩)) ∧ Ex w w' := by
  have hmf : ∀ (fn : Fn) (first cap : Array Value) (w : World), (Instr.makeFunc fn first cap).run Tryz.prog w = .ok (.func fn first cap) w := fun _ _ _ _ => rfl
  obtain ⟨x, y, hC, _⟩ := h
  obtain ⟨w1, hw1⟩ : ∃ w1, w.alloc (.cells #[.pointer (some ⟨g, 0, none⟩)] 32) = w1 := ⟨_, rfl⟩
  have hx1 : Ex w w1 := by rw [← hw1]; exact (Below.refl _ _).alloc (Nat.le_refl _) _
  have hd : w1.cell? ⟨g, 2, none⟩ = some (.int .u32 1) := (hC.below hx1).cell 2
  have hp : w1.cell? ⟨w.heap.size, 0, none⟩ = some (.pointer (some ⟨g, 0, none⟩)) := by rw [← hw1]; simp
  have HX1 : Hid (Ex w w1) := hx1
  have HD : Hid (w1.cell? ⟨g, 2, none⟩ = some (.int .u32 1)) := hd
  clear hC hx1 hd
  go_enter Tryz.func56, Tryz.ntmps56
  go_wp2_with fail
  go_at_call 93
  refine (do_done g _ w1 HD.out).mono ?_
  rintro e wq ⟨rfl, hwq⟩
  have hwq' := hwq.symm; clear hwq; subst hwq'
  go_wp2_with fail
  go_ret
  exact ⟨rfl, HX1.out⟩
set_option maxRecDepth 100000 in
set_option maxHeartbeats 4000000 in
theorem values_is (g : Nat) (b : List UInt8) (fp : Nat → Prop) (w : World) (h : Chk w g b fp) (hok : Ok b) :
    Calls Tryz.prog 56 #[.pointer (some ⟨g, 0, none⟩)] w fun e w' => e = .returned (.pointer (some ⟨g, 6, none⟩)) ∧ Asked w w' g b fp := by
  rcases h with h | h
  · have hmf : ∀ (fn : Fn) (first cap : Array Value) (w : World), (Instr.makeFunc fn first cap).run Tryz.prog w = .ok (.func fn first cap) w := fun _ _ _ _ => rfl
    obtain ⟨bs, hC, hB, hbs⟩ := h
    have hglt := hC.lt
    obtain ⟨w1, hw1⟩ : ∃ w1, w.alloc (.cells #[.pointer (some ⟨g, 0, none⟩)] 32) = w1 := ⟨_, rfl⟩
    have hx1 : Ex w w1 := by rw [← hw1]; exact (Below.refl _ _).alloc (Nat.le_refl _) _
    have hs1 : w.heap.size ≤ w1.heap.size := hx1.size
    have hp : w1.cell? ⟨w.heap.size, 0, none⟩ = some (.pointer (some ⟨g, 0, none⟩)) := by rw [← hw1]; simp
    have hdf := do_first w.heap.size g b (LK b) ((LC b).length : Nat) bs w1 hp (by omega) (hC.below hx1 : ChAt w1 g (LK b) ((LC b).length : Nat) 0 bs 0 n0 n0) (hB.below hx1) (fun h0 q hq => (hbs h0 q hq).1) hok
    have HDF : Hid (Calls Tryz.prog 93 #[.pointer (some ⟨g, 2, none⟩), .func (.func 94) #[] #[.pointer (some ⟨w.heap.size, 0, none⟩)]] w1 fun e w' => e = .returned (.tuple #[]) ∧ Laid w1 w' g b (LK b) ((LC b).length : Nat) 1 0) := hdf
    have HX1 : Hid (Ex w w1) := hx1
    clear hC hB hbs hdf hx1 hok
    go_enter Tryz.func56, Tryz.ntmps56
    go_wp2_with fail
    go_at_call 93
    refine Calls.mono HDF.out ?_
    rintro e w2 ⟨rfl, x, y, hC2, hro, hg2⟩
    have hp2 : w2.cell? ⟨w.heap.size, 0, none⟩ = some (.pointer (some ⟨g, 0, none⟩)) := by
      rw [hg2.cell_far ⟨w.heap.size, 0, none⟩ (World.block_lt_of_cell? _ _ hp) (by simp; omega)]
      exact hp
    have HA : Hid (Asked w w2 g b fp) := (⟨fun q => fp q ∨ w.heap.size ≤ q, ⟨x, y, hC2, hro.1, hro.2.1, fun _ q hq => by have := hro.2.2 q (.inl hq); exact ⟨by omega, .inr (by omega)⟩, fun _ q hq => by have := hro.2.2 q (.inr hq); exact ⟨by omega, .inr (by omega)⟩⟩, fun q hq => hq, grown_tr (HX1.out.grownBy _) hg2⟩ : Asked w w2 g b fp)
    clear hC2 hro hg2 hp
    go_wp2_with fail
    go_ret
    exact ⟨rfl, HA.out⟩
  · refine (values_d g b fp w h).mono ?_
    rintro e w' ⟨he, hx⟩
    exact ⟨he, fp, h.below hx, fun q hq => .inl hq, hx.grownBy _⟩
theorem kind_is (g : Nat) (b : List UInt8) (fp : Nat → Prop) (w : World) (h : Chk w g b fp) :
    Calls Tryz.prog 53 #[.pointer (some ⟨g, 0, none⟩)] w fun e w' => e = .returned (.int .i64 (LK b)) ∧ w' = w := by
  have hz := h.two.1
  clear h
  go_enter Tryz.func53, Tryz.ntmps53
  go_wp2_with fail
  go_ret
  exact ⟨rfl, rfl⟩
theorem rows_is (g : Nat) (b : List UInt8) (fp : Nat → Prop) (w : World) (h : Chk w g b fp) :
    Calls Tryz.prog 20 #[.pointer (some ⟨g, 0, none⟩)] w fun e w' => e = .returned (.int .i64 ((LC b).length : Nat)) ∧ w' = w := by
  have hz := h.two.2
  clear h
  go_enter Tryz.func20, Tryz.ntmps20
  go_wp2_with fail
  go_ret
  exact ⟨rfl, rfl⟩
/-- The cell at a place, or none. -/
def LA (b : List UInt8) (i : Int) : Ce := if i < 0 then Rw.none_ else (LC b).getD i.toNat Rw.none_
theorem LA_in {b : List UInt8} {i : Nat} (h : i < (LC b).length) : LA b i = cel (LW b) (LP b) i := by
  unfold LA
  rw [if_neg (by omega)]
  have h2 : i < (LP b).length := by rw [← LC_len]; exact h
  have := allC_at (ws := LW b) h2
  rw [← this]
  simp [List.getD_eq_getElem?_getD, LC_def, h2, allC_len]
theorem LA_out {b : List UInt8} {i : Int} (h : i < 0 ∨ ((LC b).length : Int) ≤ i) : LA b i = Rw.none_ := by
  unfold LA
  split
  · rfl
  · rw [List.getD_eq_getElem?_getD, List.getElem?_eq_none (by omega)]; rfl
end Go.Proofs.YtnmonoafjijfhaaGreat
namespace Go.Proofs.YtnmonoafjijfhaaGreat
open Go.RowKit
set_option linter.unusedVariables false
set_option linter.unusedSimpArgs false
theorem EAt.farG {w w' : World} {g : Nat} {c : Ce} {row : Option Nat} (h : EAt w g c) (hg : w.grownBy w' row) (hne : row ≠ some g) : EAt w' g c := by
  unfold EAt; rw [hg.block g h.lt (fun e => hne e.symm)]; exact h
theorem grown_eset (w : World) (g : Nat) (c : Ce) : w.grownBy (eset w g c) (some g) := grown_tr (grown_tr (grown_tr (grown_set1 _ _ _ _) (grown_set1 _ _ _ _)) (grown_set1 _ _ _ _)) (grown_set1 _ _ _ _)
/-- Behind a question: the chunk stands; nothing old has turned but its own block. -/
def After (w w' : World) (g : Nat) (b : List UInt8) (fp : Nat → Prop) : Prop := ∃ fp' : Nat → Prop, Chk w' g b fp' ∧ (∀ q, fp' q → fp q ∨ w.heap.size ≤ q) ∧ w.grownBy w' (some g)
theorem Asked.after {w w' : World} {g : Nat} {b : List UInt8} {fp : Nat → Prop} (h : Asked w w' g b fp) : After w w' g b fp := by
  obtain ⟨fp', h1, h2, h3⟩ := h
  exact ⟨fp', .inr h1, h2, h3⟩
theorem Chk.nine {w : World} {g : Nat} {b : List UInt8} {fp : Nat → Prop} (h : ChD w g b fp) : ∃ x y, w.cell? ⟨g, 6, none⟩ = some (.int .u64 ((Ck.lread b).f : Nat)) ∧ w.cell? ⟨g, 6 + 1, none⟩ = some (sv x) ∧ w.cell? ⟨g, 6 + 2, none⟩ = some (sv y) ∧ IsC (LW b) x w ∧ IsZ (LP b) y w := by
  obtain ⟨x, y, h1, h2, h3, _⟩ := h
  exact ⟨x, y, h1.cell 6, h1.cell 7, h1.cell 8, h2, h3⟩
set_option maxRecDepth 100000 in
set_option maxHeartbeats 4000000 in
theorem cell_is (g : Nat) (b : List UInt8) (fp : Nat → Prop) (I : Int) (w : World) (h : Chk w g b fp) (hok : Ok b) :
    Calls Tryz.prog 22 #[.pointer (some ⟨g, 0, none⟩), .int .i64 I] w fun e w' => e = .returned (cv (LA b I)) ∧ After w w' g b fp := by
  have hglt := h.lt
  obtain ⟨w1, hw1⟩ : ∃ w1, w.alloc (cb Rw.none_) = w1 := ⟨_, rfl⟩
  have hx1 : Ex w w1 := by rw [← hw1]; exact (Below.refl _ _).alloc (Nat.le_refl _) _
  have hs1 : w1.heap.size = w.heap.size + 1 := by rw [← hw1]; simp
  have HE1 : Hid (EAt w1 w.heap.size Rw.none_) := (by rw [← hw1]; exact EAt.new w Rw.none_ : EAt w1 w.heap.size Rw.none_)
  have HC1 : Hid (Chk w1 g b (fun q => fp q ∧ q < w.heap.size)) := h.tight.below hx1
  have HX1 : Hid (Ex w w1) := hx1
  have HOk : Hid (Ok b) := hok
  have HW1 : Hid (w.alloc (.cells #[.string { data := #[] }, .int .i64 0, .int .i64 0, .string { data := #[] }] 28) = w1) := hw1
  have z1 : w1.cell? ⟨g, 1, none⟩ = some (.int .i64 ((LC b).length : Nat)) := HC1.out.two.2
  clear h hok hw1 hx1
  obtain ⟨R, hR⟩ : ∃ R, (LC b).length = R := ⟨_, rfl⟩
  have HR : Hid ((LC b).length = R) := hR
  rw [hR] at z1
  have zA : (w.alloc (.cells #[.string { data := #[] }, .int .i64 0, .int .i64 0, .string { data := #[] }] 28)).cell? ⟨g, 1, none⟩ = some (.int .i64 (R : Nat)) := by rw [HW1.out]; exact z1
  clear hR
  go_enter Tryz.func22, Tryz.ntmps22
  by_cases hin : I < 0 ∨ (R : Int) ≤ I
  · have HA : Hid (LA b I = Rw.none_) := LA_out (by rw [HR.out]; exact hin)
    rw [HA.out]
    obtain ⟨y0, y1, y2, y3⟩ := HE1.out.all
    obtain ⟨f0, f1, f2, f3⟩ := HE1.out.fro
    have HFin : Hid (After w w1 g b fp) := (⟨fun q => fp q ∧ q < w.heap.size, HC1.out, fun q hq => .inl hq.1, HX1.out.grownBy _⟩ : After w w1 g b fp)
    rcases Classical.em (I < 0) with h0 | h0
    · have t0 : decide (I < 0) = true := by simp; omega
      go_wp2_with fail
      refine bodyPost_ret (v := cv Rw.none_) (res_cell Tryz.results22 rfl (by rw [HW1.out]; exact HE1.out)) rfl ⟨rfl, by rw [HW1.out]; exact HFin.out⟩
    · have h1 : (R : Int) ≤ I := by omega
      have t0 : decide (I < 0) = false := by simp; omega
      have t1 : decide ((R : Int) ≤ I) = true := by simpa using h1
      go_wp2_with fail
      refine bodyPost_ret (v := cv Rw.none_) (res_cell Tryz.results22 rfl (by rw [HW1.out]; exact HE1.out)) rfl ⟨rfl, by rw [HW1.out]; exact HFin.out⟩
  · have h0 : ¬ I < 0 := by omega
    have h1 : ¬ (R : Int) ≤ I := by omega
    obtain ⟨i, rfl⟩ : ∃ i : Nat, I = i := ⟨I.toNat, by omega⟩
    have t0 : decide ((i : Int) < 0) = false := by simp
    have t1 : decide ((R : Int) ≤ (i : Int)) = false := by simp; omega
    have hiR : i < (LC b).length := by rw [HR.out]; omega
    have hiP : i < (LP b).length := by rw [← LC_len]; exact hiR
    obtain ⟨d, hd⟩ : ∃ d, cel (LW b) (LP b) i = d := ⟨_, rfl⟩
    have HA : Hid (LA b (i : Int) = d) := (by rw [LA_in hiR, hd] : LA b (i : Int) = d)
    have HD : Hid (cel (LW b) (LP b) i = d) := hd
    rw [HA.out]
    clear hd hin
    go_wp2_with fail
    rw [HW1.out]
    go_at_call 56
    refine (values_is g b _ w1 HC1.out HOk.out).mono ?_
    rintro e2 w2 ⟨rfl, fp2, hD2, hf2, hg2⟩
    have HD2 : Hid (ChD w2 g b fp2) := hD2
    have HE2 : Hid (EAt w2 w.heap.size Rw.none_) := HE1.out.farG hg2 (by simp; omega)
    have HG2 : Hid (w1.grownBy w2 (some g)) := hg2
    obtain ⟨x, y, c6, c7, c8, hic, hiz⟩ := Chk.nine hD2
    have C7 : Hid (w2.cell? ⟨g, 6 + 1, none⟩ = some (sv x)) := c7
    have C8 : Hid (w2.cell? ⟨g, 6 + 2, none⟩ = some (sv y)) := c8
    have HIC : Hid (IsC (LW b) x w2) := hic
    have HIZ : Hid (IsZ (LP b) y w2) := hiz
    have HF2 : Hid (∀ q, fp2 q → (fp q ∧ q < w.heap.size) ∨ w1.heap.size ≤ q) := hf2
    clear hD2 hg2 c6 c7 c8 hic hiz hf2
    go_wp2_with fail
    go_at_call 57
    refine (colcell_is g 6 x y (LW b) (LP b) (i : Int) i w2 C7.out C8.out HIC.out HIZ.out rfl hiP HOk.out.2.2.2.1).mono ?_
    rw [HD.out]
    rintro e3 w3 ⟨rfl, hx3⟩
    have HE3 : Hid (EAt w3 w.heap.size Rw.none_) := HE2.out.below hx3
    have hfin : After w (eset w3 w.heap.size d) g b fp := by
      refine ⟨fp2, .inr ((HD2.out.below hx3).far (grown_eset _ _ _) (by omega) (fun h => ?_)), fun q hq => ?_, ?_⟩
      · have := HF2.out _ h; omega
      · rcases HF2.out q hq with h | h
        · exact .inl h.1
        · exact .inr (by omega)
      · exact grown_trN (grown_tr (HX1.out.grownBy _) (grown_tr HG2.out (hx3.grownBy _))) (grown_eset _ _ _) (fun j hj => by simp at hj; omega)
    have HFin : Hid (After w (eset w3 w.heap.size d) g b fp) := hfin
    obtain ⟨y0, y1, y2, y3⟩ := HE3.out.all
    obtain ⟨f0, f1, f2, f3⟩ := HE3.out.fro
    clear hfin hx3 C7 C8 HIC HIZ HE2 HE1
    unfold cv
    go_wp2_with fail
    refine bodyPost_ret (v := cv d) (res_cell Tryz.results22 rfl (EAt.store HE3.out d)) rfl ⟨rfl, HFin.out⟩
set_option maxRecDepth 100000 in
set_option maxHeartbeats 4000000 in
theorem cell_d (g : Nat) (b : List UInt8) (fp : Nat → Prop) (I : Int) (w : World) (h : ChD w g b fp) (hok : Ok b) :
    Calls Tryz.prog 22 #[.pointer (some ⟨g, 0, none⟩), .int .i64 I] w fun e w' => e = .returned (cv (LA b I)) ∧ Ex w w' := by
  obtain ⟨w1, hw1⟩ : ∃ w1, w.alloc (cb Rw.none_) = w1 := ⟨_, rfl⟩
  have hx1 : Ex w w1 := by rw [← hw1]; exact (Below.refl _ _).alloc (Nat.le_refl _) _
  have HE1 : Hid (EAt w1 w.heap.size Rw.none_) := (by rw [← hw1]; exact EAt.new w Rw.none_ : EAt w1 w.heap.size Rw.none_)
  have HC1 : Hid (ChD w1 g b fp) := h.below hx1
  have HX1 : Hid (Ex w w1) := hx1
  have HOk : Hid (Ok b) := hok
  have HW1 : Hid (w.alloc (.cells #[.string { data := #[] }, .int .i64 0, .int .i64 0, .string { data := #[] }] 28) = w1) := hw1
  have z1 : w1.cell? ⟨g, 1, none⟩ = some (.int .i64 ((LC b).length : Nat)) := (Chk.two (.inr HC1.out)).2
  clear h hok hw1 hx1
  obtain ⟨R, hR⟩ : ∃ R, (LC b).length = R := ⟨_, rfl⟩
  have HR : Hid ((LC b).length = R) := hR
  rw [hR] at z1
  have zA : (w.alloc (.cells #[.string { data := #[] }, .int .i64 0, .int .i64 0, .string { data := #[] }] 28)).cell? ⟨g, 1, none⟩ = some (.int .i64 (R : Nat)) := by rw [HW1.out]; exact z1
  clear hR
  go_enter Tryz.func22, Tryz.ntmps22
  by_cases hin : I < 0 ∨ (R : Int) ≤ I
  · have HA : Hid (LA b I = Rw.none_) := LA_out (by rw [HR.out]; exact hin)
    rw [HA.out]
    obtain ⟨y0, y1, y2, y3⟩ := HE1.out.all
    obtain ⟨f0, f1, f2, f3⟩ := HE1.out.fro
    have HFin : Hid (Ex w w1) := HX1.out
    rcases Classical.em (I < 0) with h0 | h0
    · have t0 : decide (I < 0) = true := by simp; omega
      go_wp2_with fail
      refine bodyPost_ret (v := cv Rw.none_) (res_cell Tryz.results22 rfl (by rw [HW1.out]; exact HE1.out)) rfl ⟨rfl, by rw [HW1.out]; exact HFin.out⟩
    · have h1 : (R : Int) ≤ I := by omega
      have t0 : decide (I < 0) = false := by simp; omega
      have t1 : decide ((R : Int) ≤ I) = true := by simpa using h1
      go_wp2_with fail
      refine bodyPost_ret (v := cv Rw.none_) (res_cell Tryz.results22 rfl (by rw [HW1.out]; exact HE1.out)) rfl ⟨rfl, by rw [HW1.out]; exact HFin.out⟩
  · have h0 : ¬ I < 0 := by omega
    have h1 : ¬ (R : Int) ≤ I := by omega
    obtain ⟨i, rfl⟩ : ∃ i : Nat, I = i := ⟨I.toNat, by omega⟩
    have t0 : decide ((i : Int) < 0) = false := by simp
    have t1 : decide ((R : Int) ≤ (i : Int)) = false := by simp; omega
    have hiR : i < (LC b).length := by rw [HR.out]; omega
    have hiP : i < (LP b).length := by rw [← LC_len]; exact hiR
    obtain ⟨d, hd⟩ : ∃ d, cel (LW b) (LP b) i = d := ⟨_, rfl⟩
    have HA : Hid (LA b (i : Int) = d) := (by rw [LA_in hiR, hd] : LA b (i : Int) = d)
    have HD : Hid (cel (LW b) (LP b) i = d) := hd
    rw [HA.out]
    clear hd hin
    go_wp2_with fail
    rw [HW1.out]
    go_at_call 56
    refine (values_d g b _ w1 HC1.out).mono ?_
    rintro e2 w2 ⟨rfl, hx2⟩
    have HD2 : Hid (ChD w2 g b fp) := HC1.out.below hx2
    have HE2 : Hid (EAt w2 w.heap.size Rw.none_) := HE1.out.below hx2
    have HX2 : Hid (Ex w w2) := HX1.out.trans hx2
    obtain ⟨x, y, c6, c7, c8, hic, hiz⟩ := Chk.nine HD2.out
    have C7 : Hid (w2.cell? ⟨g, 6 + 1, none⟩ = some (sv x)) := c7
    have C8 : Hid (w2.cell? ⟨g, 6 + 2, none⟩ = some (sv y)) := c8
    have HIC : Hid (IsC (LW b) x w2) := hic
    have HIZ : Hid (IsZ (LP b) y w2) := hiz
    clear hx2 c6 c7 c8 hic hiz
    go_wp2_with fail
    go_at_call 57
    refine (colcell_is g 6 x y (LW b) (LP b) (i : Int) i w2 C7.out C8.out HIC.out HIZ.out rfl hiP HOk.out.2.2.2.1).mono ?_
    rw [HD.out]
    rintro e3 w3 ⟨rfl, hx3⟩
    have HE3 : Hid (EAt w3 w.heap.size Rw.none_) := HE2.out.below hx3
    have HFin : Hid (Ex w (eset w3 w.heap.size d)) := Below.eset (HX2.out.trans hx3) (Nat.le_refl _) _
    obtain ⟨y0, y1, y2, y3⟩ := HE3.out.all
    obtain ⟨f0, f1, f2, f3⟩ := HE3.out.fro
    clear hx3 C7 C8 HIC HIZ HE2 HE1
    unfold cv
    go_wp2_with fail
    refine bodyPost_ret (v := cv d) (res_cell Tryz.results22 rfl (EAt.store HE3.out d)) rfl ⟨rfl, HFin.out⟩
/-- The dictionary of bytes that were read. -/
def LD (b : List UInt8) : List (List UInt8) := if (Ck.lread b).f = 2 then Ck.t2 (LW b) else []
end Go.Proofs.YtnmonoafjijfhaaGreat
namespace Go.Proofs.YtnmonoafjijfhaaGreat
open Go.RowKit
set_option linter.unusedVariables false
set_option linter.unusedSimpArgs false
/-- Behind Pick: cells in a row of their own, beside the chunk. -/
def Picked (w w' : World) (g h : Nat) (b : List UInt8) (fp : Nat → Prop) (L : List Int) : Prop := ∃ fp' : Nat → Prop, Chk w' g b fp' ∧ (∀ q, fp' q → (fp q ∨ w.heap.size ≤ q) ∧ q ≠ h) ∧ CRow w' h (L.map (LA b)) ∧ w.heap.size ≤ h ∧ w.grownBy w' (some g)
theorem LA_take {b : List UInt8} {L : List Int} {i : Nat} (h : i < L.length) : (L.map (LA b)).take (i + 1) = (L.map (LA b)).take i ++ [LA b L[i]] := by
  rw [take_snoc (by simpa using h)]; simp
set_option maxRecDepth 100000 in
set_option maxHeartbeats 4000000 in
theorem pick_is (g : Nat) (b : List UInt8) (fp : Nat → Prop) (a : Option Addr) (n cap : Nat) (L : List Int) (w : World) (h : Chk w g b fp) (hok : Ok b) (hn : n = L.length) (hB : Rd z64 w a cap L) (hne : 0 < L.length → ∀ q off, a = some ⟨q, off, none⟩ → q ≠ g) (hl : L.length ≤ 70000) :
    Calls Tryz.prog 27 #[.pointer (some ⟨g, 0, none⟩), .slice a n cap] w fun e w' => ∃ hh, e = .returned (.slice (some ⟨hh, 0, none⟩) n n) ∧ Picked w w' g hh b fp L := by
  have HN : Hid (n = L.length) := hn
  have HB : Hid (Rd z64 w a cap L) := hB
  have HNe : Hid (0 < L.length → ∀ q off, a = some ⟨q, off, none⟩ → q ≠ g) := hne
  have HOk : Hid (Ok b) := hok
  have HC : Hid (Chk w g b fp) := h
  have hglt := h.lt
  have hn7 : n ≤ 70000 := by omega
  have hcl : n ≤ cap := by have := hB.1; omega
  have hcm := hB.2.1
  unfold maxLen at hcm
  clear h hok hn hB hne hl
  go_enter Tryz.func27, Tryz.ntmps27
  go_wp2_with (at_make; refine wpList_make_cells rfl _ _ rfl _ _ n rfl rfl rfl rfl (by omega) ?_; intro w3 hr3 hb3)
  obtain ⟨hh, hg⟩ : ∃ hh, hh = w.heap.size := ⟨_, rfl⟩
  rw [← hg]
  have h0R : Hid (CRow w3 hh ((L.map (LA b)).take 0 ++ List.replicate (n - 0) Rw.none_)) := (by rw [hg]; simpa using hr3 : CRow w3 hh ((L.map (LA b)).take 0 ++ List.replicate (n - 0) Rw.none_))
  have h0G : Hid (w.grownBy w3 (some g)) := Ex.grownBy hb3 _
  have h0C : Hid (∃ fp' : Nat → Prop, Chk w3 g b fp' ∧ ∀ q, fp' q → (fp q ∨ w.heap.size ≤ q) ∧ q ≠ hh) := (⟨fun q => fp q ∧ q < w.heap.size, HC.out.tight.below hb3, fun q hq => ⟨.inl hq.1, by omega⟩⟩ : ∃ fp' : Nat → Prop, Chk w3 g b fp' ∧ ∀ q, fp' q → (fp q ∨ w.heap.size ≤ q) ∧ q ≠ hh)
  have hgh : g < hh := by omega
  have hhw : w.heap.size ≤ hh := by omega
  clear hr3 hb3 HC hg
  go_loopw [6, 7, 13] (fun iv2 pv iv wr => ∃ (i : Nat), i ≤ n ∧ iv = .int .i64 (i : Int) ∧ Hid (CRow wr hh ((L.map (LA b)).take i ++ List.replicate (n - i) Rw.none_)) ∧ Hid (w.grownBy wr (some g)) ∧ Hid (∃ fp' : Nat → Prop, Chk wr g b fp' ∧ ∀ q, fp' q → (fp q ∨ w.heap.size ≤ q) ∧ q ≠ hh)) (fun iv2 pv iv wr => n - (intOf iv).toNat)
  case atStart => exact ⟨0, by omega, rfl, h0R, h0G, h0C⟩
  case round =>
    obtain ⟨i, hi, rfl, HRo, HG, HCk⟩ := hrel
    clear h0R h0G h0C
    by_cases hlt : i < n
    · have ti : (i : Int) < (n : Int) := by omega
      have hlt2 : i < L.length := by rw [← HN.out]; exact hlt
      have hrd : Rd z64 wr a cap L := rd_far HB.out HG.out (fun h0 q off e e2 => HNe.out h0 q off e (by simpa using e2.symm))
      obtain ⟨bq, off, rfl, hc⟩ := hrd.at hlt2
      obtain ⟨V, hV⟩ : ∃ V, L[i] = V := ⟨_, rfl⟩
      rw [hV] at hc
      have hc' : wr.cell? ⟨bq, off + i, none⟩ = some (.int .i64 V) := hc
      obtain ⟨d, hd⟩ : ∃ d, LA b V = d := ⟨_, rfl⟩
      have htk := LA_take (b := b) hlt2
      rw [hV, hd] at htk
      have HTk : Hid ((L.map (LA b)).take (i + 1) = (L.map (LA b)).take i ++ [d]) := htk
      have HD : Hid (LA b V = d) := hd
      obtain ⟨fp1, hC1, hf1⟩ := HCk.out
      have HC1 : Hid (Chk wr g b fp1) := hC1
      have HF1 : Hid (∀ q, fp1 q → (fp q ∨ w.heap.size ≤ q) ∧ q ≠ hh) := hf1
      have hsw : w.heap.size ≤ wr.heap.size := HG.out.size
      clear hd htk hV hc hrd hC1 hf1 HCk
      go_wp2_with fail
      go_at_call 22
      refine (cell_is g b fp1 V wr HC1.out HOk.out).mono ?_
      rw [HD.out]
      rintro e5 w5 ⟨rfl, fp5, hC5, hf5, hg5⟩
      have hhlt : hh < wr.heap.size := HRo.out.lt
      have hR5 : CRow w5 hh ((L.map (LA b)).take i ++ List.replicate (n - i) Rw.none_) := HRo.out.far hg5 (by simp; omega)
      have hal : ((L.map (LA b)).take i).length = i := by rw [List.length_take, List.length_map]; omega
      have hll : i < ((L.map (LA b)).take i ++ List.replicate (n - i) Rw.none_).length := by simp [hal]; omega
      obtain ⟨z0, z1, z2, z3⟩ := hR5.four hll
      have f0 := hR5.fro (i * 4)
      have f1 := hR5.fro (i * 4 + 1)
      have f2 := hR5.fro (i * 4 + 2)
      have f3 := hR5.fro (i * 4 + 3)
      obtain ⟨m1, hm1⟩ : ∃ m1, n - i = m1 + 1 := ⟨n - i - 1, by omega⟩
      have hR9 : CRow (cset4 w5 hh (i * 4) d) hh ((L.map (LA b)).take (i + 1) ++ List.replicate (n - (i + 1)) Rw.none_) := by
        have h := hR5.set4 hll d
        rw [hm1, fillz_set _ m1 i _ d hal.symm, ← HTk.out] at h
        rw [show n - (i + 1) = m1 by omega]
        exact h
      have HR9 : Hid (CRow (cset4 w5 hh (i * 4) d) hh ((L.map (LA b)).take (i + 1) ++ List.replicate (n - (i + 1)) Rw.none_)) := hR9
      have hf9 : ∀ q, fp5 q → (fp q ∨ w.heap.size ≤ q) ∧ q ≠ hh := by
        intro q hq
        rcases hf5 q hq with h | h
        · exact HF1.out q h
        · exact ⟨.inr (by omega), by omega⟩
      have HC9 : Hid (∃ fp' : Nat → Prop, Chk (cset4 w5 hh (i * 4) d) g b fp' ∧ ∀ q, fp' q → (fp q ∨ w.heap.size ≤ q) ∧ q ≠ hh) := (⟨fp5, hC5.far (grown_cset4 _ _ _ _) (by omega) (fun h => (hf9 hh h).2 rfl), hf9⟩ : ∃ fp' : Nat → Prop, Chk (cset4 w5 hh (i * 4) d) g b fp' ∧ ∀ q, fp' q → (fp q ∨ w.heap.size ≤ q) ∧ q ≠ hh)
      have HG9 : Hid (w.grownBy (cset4 w5 hh (i * 4) d) (some g)) := grown_trN (grown_tr HG.out hg5) (grown_cset4 _ _ _ _) (fun j hj => by simp at hj; omega)
      generalize (((L.map (LA b)).take i ++ List.replicate (n - i) Rw.none_)[i]'hll) = zc at z0 z1 z2 z3
      clear hC5 hf5 hg5 hR5 hal hll hm1 hR9 hf9 HRo HG
      unfold cv
      go_wp2_with fail
      go_roundw
      case rel => exact ⟨i + 1, by omega, by go_num, HR9, HG9, HC9⟩
      case measure => simp [intOf]; omega
    · have ti : ¬ (i : Int) < (n : Int) := by omega
      have him : i = n := by omega
      have hro := HRo.out
      rw [him, Nat.sub_self, List.replicate_zero, List.append_nil, List.take_of_length_le (by rw [List.length_map]; exact Nat.le_of_eq HN.out.symm)] at hro
      obtain ⟨fp1, hC1, hf1⟩ := HCk.out
      have HP : Hid (Picked w wr g hh b fp L) := (⟨fp1, hC1, hf1, hro, hhw, HG.out⟩ : Picked w wr g hh b fp L)
      clear hro him HRo hC1 hf1 HCk
      go_wp2_with fail
      go_ret
      exact ⟨hh, rfl, HP.out⟩
end Go.Proofs.YtnmonoafjijfhaaGreat
