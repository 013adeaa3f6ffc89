/-
  The document's own bits (layer 9): the four of a text, over the program.
-/
import Derived.Test.YtadcbefgleiijaaBloom
import Derived.Test.YtadcbefgleiijaaCrc
import Derived.Test.YtadcbefgleiijaaKinds
import Derived.Test.YtadcbefgleiijaaTail
namespace Go.Proofs.Ytadcbefgleiijaa
open Go.RowKit
set_option linter.unusedVariables false
set_option linter.unusedSimpArgs false
theorem I.and32 (n : Int) (h : 0 ≤ n) (h2 : n ≤ 18446744073709551615) : bits .and .u64 n 4294967295 = n % 4294967296 :=
  bits_mask .u64 64 (by decide) I.wraps64 32 (by decide) n h (by omega)
theorem I.or1 (n : Nat) (h2 : n < 4294967296) : bits .or .u64 (n : Int) 1 = ((if n % 2 = 0 then n + 1 else n : Nat) : Int) := by
  rw [show (1 : Int) = ((1 : Nat) : Int) from rfl, (bits_nat .u64 64 (by decide) I.wraps64 n 1 (by omega) (by omega)).2]
  congr 1
  have h := Nat.two_pow_add_eq_or_of_lt (i := 1) (b := 1) (by omega) (n / 2)
  by_cases e : n % 2 = 0
  · rw [if_pos e]
    have h0 : 2 ^ 1 * (n / 2) = n := by omega
    rw [h0] at h
    exact h.symm
  · rw [if_neg e]
    have h0 : 2 ^ 1 * (n / 2) + 1 = n := by omega
    rw [h0] at h
    calc n ||| 1 = (2 ^ 1 * (n / 2) ||| 1) ||| 1 := by rw [← h]
      _ = 2 ^ 1 * (n / 2) ||| (1 ||| 1) := Nat.or_assoc _ _ _
      _ = n := by rw [Nat.or_self]; exact h.symm
/-- The four, as a value; as the places of an array. -/
def qs (s : List UInt8) (n : Nat) : List Int := [(Fl.pos s n 0 : Int), (Fl.pos s n 1 : Int), (Fl.pos s n 2 : Int), (Fl.pos s n 3 : Int)]
def qv (s : List UInt8) (n : Nat) : Value := .agg #[.int .i64 (Fl.pos s n 0 : Int), .int .i64 (Fl.pos s n 1 : Int), .int .i64 (Fl.pos s n 2 : Int), .int .i64 (Fl.pos s n 3 : Int)]
abbrev Four (w : World) (g : Nat) (L : List Int) : Prop := RowAt z64 63 w g L
theorem Four.cells {w : World} {g : Nat} {a b c d : Int} (h : Four w g [a, b, c, d]) : w.cell? ⟨g, 0, none⟩ = some (.int .i64 a) ∧ w.cell? ⟨g, 1, none⟩ = some (.int .i64 b) ∧ w.cell? ⟨g, 2, none⟩ = some (.int .i64 c) ∧ w.cell? ⟨g, 3, none⟩ = some (.int .i64 d) :=
  ⟨RowAt.cell (k := 0) h (by simp), RowAt.cell (k := 1) h (by simp), RowAt.cell (k := 2) h (by simp), RowAt.cell (k := 3) h (by simp)⟩
theorem Four.fro {w : World} {g : Nat} {L : List Int} (h : Four w g L) : w.frozen? ⟨g, 0, none⟩ = false ∧ w.frozen? ⟨g, 1, none⟩ = false ∧ w.frozen? ⟨g, 2, none⟩ = false ∧ w.frozen? ⟨g, 3, none⟩ = false :=
  ⟨RowAt.frozen 0 h, RowAt.frozen 1 h, RowAt.frozen 2 h, RowAt.frozen 3 h⟩
set_option maxHeartbeats 1000000 in
theorem load_four {w9 : World} {g : Nat} {a b c d : Int} (h : Four w9 g [a, b, c, d]) : (loadVar 63 ⟨g, 0, none⟩).run Try.prog w9 = .ok (.agg #[.int .i64 a, .int .i64 b, .int .i64 c, .int .i64 d]) w9 := by
  obtain ⟨c0, c1, c2, c3⟩ := Four.cells h
  clear h
  simp [go_sem, c0, c1, c2, c3]
theorem res_four {fn : Func} {tmps : Array Value} {w9 : World} {g i : Nat} {a b c d : Int} (hfn : fn.results = #[ResultVar.cell i 63]) (ht : tmps.getD i undef = .pointer (some ⟨g, 0, none⟩)) (h : Four w9 g [a, b, c, d]) : (results fn tmps).run Try.prog w9 = .ok (.agg #[.int .i64 a, .int .i64 b, .int .i64 c, .int .i64 d]) w9 := by
  have hl := load_four h
  have ht' : tmps[i]?.getD undef = .pointer (some ⟨g, 0, none⟩) := by simpa using ht
  simp [results, hfn, ht', asAddr, Sem.run_bind, Result.andThen, hl]
theorem pos_form (s : List UInt8) (n i : Nat) (A B : Nat) (hA : A = S.fnv s % 4294967296) (hB : B = Fl.odd (S.fnv s)) : (((A : Int) + (i : Int) * (B : Int)) % (n : Int)) = (Fl.pos s n i : Int) := by
  subst hA; subst hB
  unfold Fl.pos
  simp
set_option maxRecDepth 100000 in
set_option maxHeartbeats 2000000 in
theorem rbits_is (s : List UInt8) (n : Nat) (w : World) (hs : s.length ≤ 9223372036854775807) (hn1 : 1 ≤ n) (hn2 : n ≤ 65536) :
    Calls Try.prog 28 #[.string (str s), .int .i64 n] w fun e w' => e = .returned (qv s n) ∧ Ex w w' := by
  have hf := S.fnv_lt s
  obtain ⟨h, hh⟩ : ∃ h, S.fnv s = h := ⟨_, rfl⟩
  rw [hh] at hf
  have HH : Hid (S.fnv s = h) := hh
  have a1 := I.and32 (h : Int) (by omega) (by omega)
  obtain ⟨A, hA⟩ : ∃ A, A = h % 4294967296 := ⟨_, rfl⟩
  have hAi : (h : Int) % 4294967296 = (A : Int) := by omega
  rw [hAi] at a1
  obtain ⟨q, hq⟩ : ∃ q, q = h / 4294967296 := ⟨_, rfl⟩
  have hqi : (h : Int) / 4294967296 = (q : Int) := by omega
  obtain ⟨B, hB⟩ : ∃ B, B = Fl.odd h := ⟨_, rfl⟩
  have hBl : B < 4294967296 := by rw [hB]; exact Fl.odd_lt hf
  have o1 : bits .or .u64 (q : Int) 1 = (B : Int) := by rw [I.or1 q (by omega), hB, hq]; rfl
  have hAl : A < 4294967296 := by omega
  obtain ⟨p0, hp0⟩ : ∃ p, Fl.pos s n 0 = p := ⟨_, rfl⟩
  have P0 : (A : Int) % (n : Int) = (p0 : Int) := by rw [← hp0, ← pos_form s n 0 A B (by rw [hA, hh]) (by rw [hB, hh])]; simp
  obtain ⟨p1, hp1⟩ : ∃ p, Fl.pos s n 1 = p := ⟨_, rfl⟩
  have P1 : ((A : Int) + (B : Int)) % (n : Int) = (p1 : Int) := by rw [← hp1, ← pos_form s n 1 A B (by rw [hA, hh]) (by rw [hB, hh])]; simp
  obtain ⟨p2, hp2⟩ : ∃ p, Fl.pos s n 2 = p := ⟨_, rfl⟩
  have P2 : ((A : Int) + 2 * (B : Int)) % (n : Int) = (p2 : Int) := by rw [← hp2, ← pos_form s n 2 A B (by rw [hA, hh]) (by rw [hB, hh])]; simp
  obtain ⟨p3, hp3⟩ : ∃ p, Fl.pos s n 3 = p := ⟨_, rfl⟩
  have P3 : ((A : Int) + 3 * (B : Int)) % (n : Int) = (p3 : Int) := by rw [← hp3, ← pos_form s n 3 A B (by rw [hA, hh]) (by rw [hB, hh])]; simp
  have hz : ((n : Int) == 0) = false := by simp; omega
  have l0 : p0 < n := by rw [← hp0]; exact Fl.pos_lt s (n := n) (by omega) 0
  have l1 : p1 < n := by rw [← hp1]; exact Fl.pos_lt s (n := n) (by omega) 1
  have l2 : p2 < n := by rw [← hp2]; exact Fl.pos_lt s (n := n) (by omega) 2
  have l3 : p3 < n := by rw [← hp3]; exact Fl.pos_lt s (n := n) (by omega) 3
  clear hA hB hq hh
  unfold qv
  rw [hp0, hp1, hp2, hp3]
  clear hp0 hp1 hp2 hp3
  go_enter Try.func28, Try.ntmps28
  go_wp2_with fail
  refine (rfnv_any s _ hs).mono ?_
  rintro e wq ⟨rfl, hw⟩
  have hw' := hw.symm; clear hw; subst hw'
  rw [HH.out]
  go_wp2_with fail
  go_loopw [9] (fun i wr => Hid (Four wr w.heap.size [0, 0, 0, 0]) ∧ Hid (Below w.heap.size w wr) ∧ ((i = .int .u64 0 ∧ Hid (Four wr (w.heap.size + 1) [0, 0, 0, 0])) ∨ (i = .int .u64 1 ∧ Hid (Four wr (w.heap.size + 1) [(p0 : Int), 0, 0, 0])) ∨ (i = .int .u64 2 ∧ Hid (Four wr (w.heap.size + 1) [(p0 : Int), (p1 : Int), 0, 0])) ∨ (i = .int .u64 3 ∧ Hid (Four wr (w.heap.size + 1) [(p0 : Int), (p1 : Int), (p2 : Int), 0])) ∨ (i = .int .u64 4 ∧ Hid (Four wr (w.heap.size + 1) [(p0 : Int), (p1 : Int), (p2 : Int), (p3 : Int)])))) (fun i _ => 4 - (intOf i).toNat)
  case atStart => exact ⟨RowAt.below (heap_alloc_new w _ : Four _ _ [0, 0, 0, 0]) ((Below.refl _ _).alloc (Nat.le_refl _) _), ((Below.refl _ _).alloc (Nat.le_refl _) _).alloc (by simp) _, .inl ⟨rfl, (by have h := heap_alloc_new (w.alloc (Obj.cells #[Value.int IntKind.i64 0, Value.int IntKind.i64 0, Value.int IntKind.i64 0, Value.int IntKind.i64 0] 63)) (Obj.cells #[Value.int IntKind.i64 0, Value.int IntKind.i64 0, Value.int IntKind.i64 0, Value.int IntKind.i64 0] 63); rw [show (w.alloc (Obj.cells #[Value.int IntKind.i64 0, Value.int IntKind.i64 0, Value.int IntKind.i64 0, Value.int IntKind.i64 0] 63)).heap.size = w.heap.size + 1 from by simp] at h; exact h : Four _ (w.heap.size + 1) [0, 0, 0, 0])⟩⟩
  case round =>
    obtain ⟨H4, HBl, hrel⟩ := hrel
    rcases hrel with ⟨rfl, H8⟩ | ⟨rfl, H8⟩ | ⟨rfl, H8⟩ | ⟨rfl, H8⟩ | ⟨rfl, H8⟩
    · obtain ⟨c0, c1, c2, c3⟩ := Four.cells H8.out
      obtain ⟨f0, f1, f2, f3⟩ := Four.fro H8.out
      go_wp2_with fail
      go_roundw
      case rel => exact ⟨RowAt.other H4.out (by omega), Below.setCell HBl.out (p := ⟨w.heap.size + 1, 0, none⟩) (by simp) _, .inr (.inl ⟨rfl, RowAt.set (k := 0) H8.out (p0 : Int) rfl⟩)⟩
      case measure => simp [intOf]
    · obtain ⟨c0, c1, c2, c3⟩ := Four.cells H8.out
      obtain ⟨f0, f1, f2, f3⟩ := Four.fro H8.out
      go_wp2_with fail
      go_roundw
      case rel => exact ⟨RowAt.other H4.out (by omega), Below.setCell HBl.out (p := ⟨w.heap.size + 1, 1, none⟩) (by simp) _, .inr (.inr (.inl ⟨rfl, RowAt.set (k := 1) H8.out (p1 : Int) rfl⟩))⟩
      case measure => simp [intOf]
    · obtain ⟨c0, c1, c2, c3⟩ := Four.cells H8.out
      obtain ⟨f0, f1, f2, f3⟩ := Four.fro H8.out
      go_wp2_with fail
      go_roundw
      case rel => exact ⟨RowAt.other H4.out (by omega), Below.setCell HBl.out (p := ⟨w.heap.size + 1, 2, none⟩) (by simp) _, .inr (.inr (.inr (.inl ⟨rfl, RowAt.set (k := 2) H8.out (p2 : Int) rfl⟩)))⟩
      case measure => simp [intOf]
    · obtain ⟨c0, c1, c2, c3⟩ := Four.cells H8.out
      obtain ⟨f0, f1, f2, f3⟩ := Four.fro H8.out
      go_wp2_with fail
      go_roundw
      case rel => exact ⟨RowAt.other H4.out (by omega), Below.setCell HBl.out (p := ⟨w.heap.size + 1, 3, none⟩) (by simp) _, .inr (.inr (.inr (.inr (⟨rfl, RowAt.set (k := 3) H8.out (p3 : Int) rfl⟩))))⟩
      case measure => simp [intOf]
    · obtain ⟨c0, c1, c2, c3⟩ := Four.cells H8.out
      obtain ⟨d0, d1, d2, d3⟩ := Four.cells H4.out
      obtain ⟨f0, f1, f2, f3⟩ := Four.fro H4.out
      go_wp2_with fail
      refine bodyPost_ret (res_four (g := w.heap.size) (a := p0) (b := p1) (c := p2) (d := p3) rfl rfl ?_) rfl ⟨rfl, ?_⟩
      · exact RowAt.set (k := 3) (RowAt.set (k := 2) (RowAt.set (k := 1) (RowAt.set (k := 0) H4.out (p0 : Int) rfl) (p1 : Int) rfl) (p2 : Int) rfl) (p3 : Int) rfl
      · exact Below.setCell (Below.setCell (Below.setCell (Below.setCell HBl.out (p := ⟨w.heap.size, 0, none⟩) (by simp) _) (p := ⟨w.heap.size, 1, none⟩) (by simp) _) (p := ⟨w.heap.size, 2, none⟩) (by simp) _) (p := ⟨w.heap.size, 3, none⟩) (by simp) _
end Go.Proofs.Ytadcbefgleiijaa
