/-
  Package bloom's places: the four bits of a text, over the program.
-/
import Derived.Test.YtadcbefgleiijaaRbits
namespace Go.Proofs.Ytadcbefgleiijaa
open Go.RowKit
set_option linter.unusedVariables false
set_option linter.unusedSimpArgs false
def qu (s : List UInt8) (n : Nat) : Value := .agg #[.int .u64 (Fl.pos s n 0 : Int), .int .u64 (Fl.pos s n 1 : Int), .int .u64 (Fl.pos s n 2 : Int), .int .u64 (Fl.pos s n 3 : Int)]
abbrev FourU (w : World) (g : Nat) (L : List Nat) : Prop := RowAt n64 57 w g L
theorem FourU.cells {w : World} {g : Nat} {a b c d : Nat} (h : FourU w g [a, b, c, d]) : w.cell? ⟨g, 0, none⟩ = some (.int .u64 a) ∧ w.cell? ⟨g, 1, none⟩ = some (.int .u64 b) ∧ w.cell? ⟨g, 2, none⟩ = some (.int .u64 c) ∧ w.cell? ⟨g, 3, none⟩ = some (.int .u64 d) :=
  ⟨RowAt.cell (k := 0) h (by simp), RowAt.cell (k := 1) h (by simp), RowAt.cell (k := 2) h (by simp), RowAt.cell (k := 3) h (by simp)⟩
theorem FourU.fro {w : World} {g : Nat} {L : List Nat} (h : FourU w g L) : w.frozen? ⟨g, 0, none⟩ = false ∧ w.frozen? ⟨g, 1, none⟩ = false ∧ w.frozen? ⟨g, 2, none⟩ = false ∧ w.frozen? ⟨g, 3, none⟩ = false :=
  ⟨RowAt.frozen 0 h, RowAt.frozen 1 h, RowAt.frozen 2 h, RowAt.frozen 3 h⟩
set_option maxHeartbeats 1000000 in
theorem load_fourU {w9 : World} {g : Nat} {a b c d : Nat} (h : FourU w9 g [a, b, c, d]) : (loadVar 57 ⟨g, 0, none⟩).run Try.prog w9 = .ok (.agg #[.int .u64 a, .int .u64 b, .int .u64 c, .int .u64 d]) w9 := by
  obtain ⟨c0, c1, c2, c3⟩ := FourU.cells h
  clear h
  simp [go_sem, c0, c1, c2, c3]
theorem res_fourU {fn : Func} {tmps : Array Value} {w9 : World} {g i : Nat} {a b c d : Nat} (hfn : fn.results = #[ResultVar.cell i 57]) (ht : tmps.getD i undef = .pointer (some ⟨g, 0, none⟩)) (h : FourU w9 g [a, b, c, d]) : (results fn tmps).run Try.prog w9 = .ok (.agg #[.int .u64 a, .int .u64 b, .int .u64 c, .int .u64 d]) w9 := by
  have hl := load_fourU h
  have ht' : tmps[i]?.getD undef = .pointer (some ⟨g, 0, none⟩) := by simpa using ht
  simp [results, hfn, ht', asAddr, Sem.run_bind, Result.andThen, hl]
set_option maxRecDepth 100000 in
set_option maxHeartbeats 2000000 in
theorem places_is (s : List UInt8) (n : Nat) (w : World) (hs : s.length ≤ 9223372036854775807) (hn1 : 1 ≤ n) (hn2 : n ≤ 65536) :
    Calls Try.prog 25 #[.string (str s), .int .i64 n] w fun e w' => e = .returned (qu s n) ∧ Ex w w' := by
  have hf := S.fnv_lt s
  obtain ⟨h, hh⟩ : ∃ h, S.fnv s = h := ⟨_, rfl⟩
  rw [hh] at hf
  have HH : Hid (S.fnv s = h) := hh
  have a1 := I.and32 (h : Int) (by omega) (by omega)
  obtain ⟨A, hA⟩ : ∃ A, A = h % 4294967296 := ⟨_, rfl⟩
  have hAi : (h : Int) % 4294967296 = (A : Int) := by omega
  rw [hAi] at a1
  obtain ⟨q, hq⟩ : ∃ q, q = h / 4294967296 := ⟨_, rfl⟩
  have hqi : (h : Int) / 4294967296 = (q : Int) := by omega
  obtain ⟨B, hB⟩ : ∃ B, B = Fl.odd h := ⟨_, rfl⟩
  have hBl : B < 4294967296 := by rw [hB]; exact Fl.odd_lt hf
  have o1 : bits .or .u64 (q : Int) 1 = (B : Int) := by rw [I.or1 q (by omega), hB, hq]; rfl
  have hAl : A < 4294967296 := by omega
  obtain ⟨p0, hp0⟩ : ∃ p, Fl.pos s n 0 = p := ⟨_, rfl⟩
  have P0 : (A : Int) % (n : Int) = (p0 : Int) := by rw [← hp0, ← pos_form s n 0 A B (by rw [hA, hh]) (by rw [hB, hh])]; simp
  obtain ⟨p1, hp1⟩ : ∃ p, Fl.pos s n 1 = p := ⟨_, rfl⟩
  have P1 : ((A : Int) + (B : Int)) % (n : Int) = (p1 : Int) := by rw [← hp1, ← pos_form s n 1 A B (by rw [hA, hh]) (by rw [hB, hh])]; simp
  obtain ⟨p2, hp2⟩ : ∃ p, Fl.pos s n 2 = p := ⟨_, rfl⟩
  have P2 : ((A : Int) + 2 * (B : Int)) % (n : Int) = (p2 : Int) := by rw [← hp2, ← pos_form s n 2 A B (by rw [hA, hh]) (by rw [hB, hh])]; simp
  obtain ⟨p3, hp3⟩ : ∃ p, Fl.pos s n 3 = p := ⟨_, rfl⟩
  have P3 : ((A : Int) + 3 * (B : Int)) % (n : Int) = (p3 : Int) := by rw [← hp3, ← pos_form s n 3 A B (by rw [hA, hh]) (by rw [hB, hh])]; simp
  have hz : ((n : Int) == 0) = false := by simp; omega
  have l0 : p0 < n := by rw [← hp0]; exact Fl.pos_lt s (n := n) (by omega) 0
  have l1 : p1 < n := by rw [← hp1]; exact Fl.pos_lt s (n := n) (by omega) 1
  have l2 : p2 < n := by rw [← hp2]; exact Fl.pos_lt s (n := n) (by omega) 2
  have l3 : p3 < n := by rw [← hp3]; exact Fl.pos_lt s (n := n) (by omega) 3
  clear hA hB hq hh
  unfold qu
  rw [hp0, hp1, hp2, hp3]
  clear hp0 hp1 hp2 hp3
  go_enter Try.func25, Try.ntmps25
  go_wp2_with fail
  refine (fnv_any s _ hs).mono ?_
  rintro e wq ⟨rfl, hw⟩
  have hw' := hw.symm; clear hw; subst hw'
  rw [HH.out]
  go_wp2_with fail
  go_loopw [17] (fun i wr => Hid (FourU wr w.heap.size [0, 0, 0, 0]) ∧ Hid (Below w.heap.size w wr) ∧ ((i = .int .i64 0 ∧ Hid (FourU wr (w.heap.size + 1) [0, 0, 0, 0])) ∨ (i = .int .i64 1 ∧ Hid (FourU wr (w.heap.size + 1) [p0, 0, 0, 0])) ∨ (i = .int .i64 2 ∧ Hid (FourU wr (w.heap.size + 1) [p0, p1, 0, 0])) ∨ (i = .int .i64 3 ∧ Hid (FourU wr (w.heap.size + 1) [p0, p1, p2, 0])) ∨ (i = .int .i64 4 ∧ Hid (FourU wr (w.heap.size + 1) [p0, p1, p2, p3])))) (fun i _ => 4 - (intOf i).toNat)
  case atStart => exact ⟨RowAt.below (heap_alloc_new w _ : FourU _ _ [0, 0, 0, 0]) ((Below.refl _ _).alloc (Nat.le_refl _) _), ((Below.refl _ _).alloc (Nat.le_refl _) _).alloc (by simp) _, .inl ⟨rfl, (by have h := heap_alloc_new (w.alloc (Obj.cells #[Value.int IntKind.u64 0, Value.int IntKind.u64 0, Value.int IntKind.u64 0, Value.int IntKind.u64 0] 57)) (Obj.cells #[Value.int IntKind.u64 0, Value.int IntKind.u64 0, Value.int IntKind.u64 0, Value.int IntKind.u64 0] 57); rw [show (w.alloc (Obj.cells #[Value.int IntKind.u64 0, Value.int IntKind.u64 0, Value.int IntKind.u64 0, Value.int IntKind.u64 0] 57)).heap.size = w.heap.size + 1 from by simp] at h; exact h : FourU _ (w.heap.size + 1) [0, 0, 0, 0])⟩⟩
  case round =>
    obtain ⟨H4, HBl, hrel⟩ := hrel
    rcases hrel with ⟨rfl, H8⟩ | ⟨rfl, H8⟩ | ⟨rfl, H8⟩ | ⟨rfl, H8⟩ | ⟨rfl, H8⟩
    · obtain ⟨c0, c1, c2, c3⟩ := FourU.cells H8.out
      obtain ⟨f0, f1, f2, f3⟩ := FourU.fro H8.out
      go_wp2_with fail
      go_roundw
      case rel => exact ⟨RowAt.other H4.out (by omega), Below.setCell HBl.out (p := ⟨w.heap.size + 1, 0, none⟩) (by simp) _, .inr (.inl ⟨rfl, RowAt.set (k := 0) H8.out p0 rfl⟩)⟩
      case measure => simp [intOf]
    · obtain ⟨c0, c1, c2, c3⟩ := FourU.cells H8.out
      obtain ⟨f0, f1, f2, f3⟩ := FourU.fro H8.out
      go_wp2_with fail
      go_roundw
      case rel => exact ⟨RowAt.other H4.out (by omega), Below.setCell HBl.out (p := ⟨w.heap.size + 1, 1, none⟩) (by simp) _, .inr (.inr (.inl ⟨rfl, RowAt.set (k := 1) H8.out p1 rfl⟩))⟩
      case measure => simp [intOf]
    · obtain ⟨c0, c1, c2, c3⟩ := FourU.cells H8.out
      obtain ⟨f0, f1, f2, f3⟩ := FourU.fro H8.out
      go_wp2_with fail
      go_roundw
      case rel => exact ⟨RowAt.other H4.out (by omega), Below.setCell HBl.out (p := ⟨w.heap.size + 1, 2, none⟩) (by simp) _, .inr (.inr (.inr (.inl ⟨rfl, RowAt.set (k := 2) H8.out p2 rfl⟩)))⟩
      case measure => simp [intOf]
    · obtain ⟨c0, c1, c2, c3⟩ := FourU.cells H8.out
      obtain ⟨f0, f1, f2, f3⟩ := FourU.fro H8.out
      go_wp2_with fail
      go_roundw
      case rel => exact ⟨RowAt.other H4.out (by omega), Below.setCell HBl.out (p := ⟨w.heap.size + 1, 3, none⟩) (by simp) _, .inr (.inr (.inr (.inr (⟨rfl, RowAt.set (k := 3) H8.out p3 rfl⟩))))⟩
      case measure => simp [intOf]
    · obtain ⟨c0, c1, c2, c3⟩ := FourU.cells H8.out
      obtain ⟨d0, d1, d2, d3⟩ := FourU.cells H4.out
      obtain ⟨f0, f1, f2, f3⟩ := FourU.fro H4.out
      go_wp2_with fail
      refine bodyPost_ret (res_fourU (g := w.heap.size) (a := p0) (b := p1) (c := p2) (d := p3) rfl rfl ?_) rfl ⟨rfl, ?_⟩
      · exact RowAt.set (k := 3) (RowAt.set (k := 2) (RowAt.set (k := 1) (RowAt.set (k := 0) H4.out p0 rfl) p1 rfl) p2 rfl) p3 rfl
      · exact Below.setCell (Below.setCell (Below.setCell (Below.setCell HBl.out (p := ⟨w.heap.size, 0, none⟩) (by simp) _) (p := ⟨w.heap.size, 1, none⟩) (by simp) _) (p := ⟨w.heap.size, 2, none⟩) (by simp) _) (p := ⟨w.heap.size, 3, none⟩) (by simp) _
end Go.Proofs.Ytadcbefgleiijaa
