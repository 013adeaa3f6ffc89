/-
  What PredRules asks, plain, and the small steps that its walk takes: the columns of a row that a predicate names, a row of two cells, a mask of three bits, a number within two others.
-/
import Derived.Test.YtbdjccmlgdfapaaPask
import Derived.Test.YtbdjccmlgdfapaaLcols
namespace Go.Proofs.Ytbdjccmlgdfapaa
open Go.RowKit
set_option linter.unusedVariables false
set_option linter.unusedSimpArgs false
namespace Rl
/-- The cells of such columns. -/
def filt (cs : List (List UInt8)) (l : List Ce) : List Ce := l.filter fun x => decide (x.col ∈ cs)
/-- .. so far, the last one asked of some columns alone. -/
def part (cs : List (List UInt8)) (l : List Ce) (x : Ce) (j : Nat) : List Ce := filt cs l ++ (if x.col ∈ cs.take j then [x] else [])
theorem part_zero (cs : List (List UInt8)) (l : List Ce) (x : Ce) : part cs l x 0 = filt cs l := by simp [part]
theorem part_end (cs : List (List UInt8)) (l : List Ce) (i : Nat) (x : Ce) (h : l[i]? = some x) : part cs (l.take i) x cs.length = filt cs (l.take (i + 1)) := by
  unfold part filt
  rw [List.take_length, List.take_add_one, h, List.filter_append]
  by_cases hx : x.col ∈ cs
  · simp [hx]
  · simp [hx]
theorem mem_next {cs : List (List UInt8)} {j : Nat} {c s : List UInt8} (h : cs[j]? = some c) : s ∈ cs.take (j + 1) ↔ s ∈ cs.take j ∨ s = c := by
  rw [List.take_add_one, h, List.mem_append]
  simp
theorem part_same (cs : List (List UInt8)) (l : List Ce) (x : Ce) (j : Nat) (c : List UInt8) (h : cs[j]? = some c) (hne : c ≠ x.col) : part cs l x (j + 1) = part cs l x j := by
  unfold part
  have e : (x.col ∈ cs.take (j + 1)) = (x.col ∈ cs.take j) := propext ⟨fun hm => by
    rcases (mem_next h).1 hm with h1 | h1
    · exact h1
    · exact absurd h1.symm hne, fun hm => (mem_next h).2 (.inl hm)⟩
  simp only [e]
theorem part_more (cs : List (List UInt8)) (hr : T.Rise cs) (l : List Ce) (x : Ce) (j : Nat) (h : cs[j]? = some x.col) : part cs l x (j + 1) = part cs l x j ++ [x] := by
  unfold part
  obtain ⟨hj, hjx⟩ := List.getElem?_eq_some_iff.1 h
  have h1 : x.col ∈ cs.take (j + 1) := (mem_next h).2 (.inr rfl)
  have h2 : x.col ∉ cs.take j := by
    intro hm
    obtain ⟨i, hi⟩ := List.getElem?_of_mem hm
    rw [List.getElem?_take] at hi
    split at hi
    · rename_i hij
      obtain ⟨hi', hix⟩ := List.getElem?_eq_some_iff.1 hi
      have := List.pairwise_iff_getElem.1 hr i j hi' hj hij
      rw [hix, hjx, T.lt_irrefl] at this
      cases this
    · cases hi
  rw [if_pos h1, if_neg h2, List.append_nil]
theorem ev_filt {r : Rw} {q : Int} {p : Pr} (hr : Pd.right p = true) : Pd.ev r p = Pd.ev ⟨r.t, q, filt (Pd.cols p) r.c⟩ p := by
  unfold Pd.right at hr
  simp only [Bool.and_eq_true] at hr
  exact Pd.ev_cols (r := r) (u := ⟨r.t, q, filt (Pd.cols p) r.c⟩) rfl p hr.2 fun c hc => (Pd.cell_among (Pd.cols p) r.c hc).symm
theorem filt_le (cs : List (List UInt8)) (l : List Ce) : (filt cs l).length ≤ l.length := List.length_filter_le _ _
theorem part_le (cs : List (List UInt8)) (l : List Ce) (x : Ce) (j : Nat) : (part cs l x j).length ≤ l.length + 1 := by
  unfold part
  have := filt_le cs l
  rw [List.length_append]
  split <;> simp <;> omega
/-- A row of a number and a text. -/
def row (n : Int) (s : List UInt8) : Rw := ⟨5, 0, [⟨[110], 1, n, []⟩, ⟨[115], 2, 0, s⟩]⟩
theorem cell_n (n : Int) (s : List UInt8) : Rw.cell (row n s).c [110] = ⟨[110], 1, n, []⟩ := by simp [row, Rw.cell]
theorem cell_s (n : Int) (s : List UInt8) : Rw.cell (row n s).c [115] = ⟨[115], 2, 0, s⟩ := by simp [row, Rw.cell]
theorem ev_less (n : Int) (s : List UInt8) : Pd.ev (row n s) (Pr.mk' ⟨4, [110], 7, 0, [], []⟩ []) = decide (n < 7) := by
  rw [Pd.ev_mk]; simp [Pd.leaf, cell_n]
theorem ev_equal (n : Int) (s : List UInt8) : Pd.ev (row n s) (Pr.mk' ⟨5, [110], n, 0, [], []⟩ []) = true := by
  rw [Pd.ev_mk]; simp [Pd.leaf, cell_n]
theorem ev_in (n : Int) (s : List UInt8) : Pd.ev (row n s) (Pr.mk' ⟨7, [115], 0, 0, [], [s]⟩ []) = true := by
  rw [Pd.ev_mk]; simp [Pd.leaf, cell_s]
theorem ev_prefix (n : Int) (s : List UInt8) (k : Nat) : Pd.ev (row n s) (Pr.mk' ⟨8, [115], 0, 0, s.take k, []⟩ []) = true := by
  rw [Pd.ev_mk]; simp [Pd.leaf, cell_s, T.begins]; exact Nat.min_le_right _ _
theorem ev_null (n : Int) (s : List UInt8) : Pd.ev (row n s) (Pr.mk' ⟨9, [109], 0, 0, [], []⟩ []) = true := by
  rw [Pd.ev_mk]; simp [Pd.leaf, row, Rw.cell]; rfl
theorem ev_time (n : Int) (s : List UInt8) : Pd.ev (row n s) (Pr.mk' ⟨10, [], 5, 5, [], []⟩ []) = true := by
  rw [Pd.ev_mk]; simp [Pd.leaf, row]
theorem ev_other (n : Int) (s : List UInt8) : Pd.ev (row n s) (Pr.mk' ⟨6, [110], 0, 0, s, []⟩ []) = false := by
  rw [Pd.ev_mk]; simp [Pd.leaf, cell_n]
end Rl
theorem I.and7i (x : Int) (h : -9223372036854775808 ≤ x) (h2 : x ≤ 9223372036854775807) : bits .and .i64 x 7 = x % 8 := by
  show IntKind.i64.wrap ((BitVec.ofInt 64 x &&& BitVec.ofInt 64 7).toNat : Int) = _
  have e : (BitVec.ofInt 64 x &&& BitVec.ofInt 64 7).toNat = (BitVec.ofInt 64 x).toNat % 8 := by
    rw [BitVec.toNat_and, show (BitVec.ofInt 64 7).toNat = 7 from by decide]
    exact Nat.and_two_pow_sub_one_eq_mod _ 3
  rw [e, IntKind.wrap_i64]
  have t : ((BitVec.ofInt 64 x).toNat : Int) = x % 18446744073709551616 := by
    rw [BitVec.toNat_ofInt]; simp; omega
  omega
set_option maxRecDepth 100000 in
theorem within_is (K hi : Nat) (w : World) (h1 : K ≤ 1000) (h2 : hi ≤ 1000) :
    Calls Try.prog 22 #[.int .i64 (K : Int), .int .i64 0, .int .i64 (hi : Int)] w fun e w' => e = .returned (.int .i64 ((K % (hi + 1) : Nat) : Int)) ∧ w' = w := by
  have hd : ((hi : Int) + 1 == 0) = false := by simp; omega
  have ht : (K : Int).tmod ((hi : Int) + 1) = ((K % (hi + 1) : Nat) : Int) := by
    rw [Int.tmod_eq_emod_of_nonneg (by omega), Int.natCast_emod]
    rfl
  have hlt := Nat.mod_lt K (show 0 < hi + 1 by omega)
  obtain ⟨R, hR⟩ : ∃ R, K % (hi + 1) = R := ⟨_, rfl⟩
  rw [hR] at ht hlt ⊢
  clear hR
  go_enter Try.func22, Try.ntmps22
  go_wp2
  go_ret
  exact ⟨I.ret_int (by omega), rfl⟩
set_option maxHeartbeats 1000000 in
theorem run_cut9 (S : List UInt8) (r : Nat) (w : World) (h : r ≤ S.length) (h2 : S.length ≤ 1000) : (Instr.sliceAt 9 (.string (str S)) none (some (.int .i64 (r : Int))) none).run Try.prog w = .ok (.string (str (S.take r))) w := by
  have hs := str_size S
  have hc := str_cut S r
  have hr : (r : Int) ≤ (S.length : Int) := by omega
  go_simp
set_option maxHeartbeats 1000000 in
theorem run_build8 {o : Oper} (ρ : Operand → Value) (w : World) (x : Operand) (s : List UInt8) (ho : o.op = .build 25 #[(0, .const (.int .i64 8)), (1, .const (.string { data := #[115] })), (4, x)]) (h0 : ρ (.const (.int .i64 8)) = .int .i64 8) (h1 : ρ (.const (.string { data := #[115] })) = .string { data := #[115] }) (hx : ρ x = .string (str s)) :
    (execOp ρ o).run Try.prog w = .ok (.value (pvv ⟨8, [115], 0, 0, s, (none, 0, 0), none, 0, 0⟩)) w := by
  simp [execOp, ho, h0, h1, hx, go_sem, pvv, sv]
  rfl
theorem Rg.good_build8 {ops : Array Oper} {specs : List Rg.Spec} {a0 : Act} {C : World → Prop} {o : Oper} {x : Operand} {s : List UInt8} (ho : o.op = .build 25 #[(0, .const (.int .i64 8)), (1, .const (.string { data := #[115] })), (4, x)]) (hg : Rg.guardV ops specs a0 o = some true) (hx : Rg.argS ops specs a0 x = .inl (.string (str s))) :
    Rg.GoodOp Try.prog ops specs a0 C Ex o (.inl (pvv ⟨8, [115], 0, 0, s, (none, 0, 0), none, 0, 0⟩)) :=
  Rg.good_val Ex.refl hg fun a w hC hh => by
    have h1 := hh x (by rw [ho]; simp [Op.operands])
    rw [hx] at h1
    exact ⟨_, run_build8 a.eval w x s ho rfl rfl h1, rfl⟩
/-- A row's cells, the call's own, in a variable. -/
def UAt (base g : Nat) (t : Int) (w : World) (L : List Ce) : Prop := ∃ a c, LAt w g ⟨t, 9, a, L.length, c⟩ ∧ OwnC w base (.slice a L.length c) L ∧ ∀ q, (Value.slice a L.length c).ownBlock = some q → q ≠ g
end Go.Proofs.Ytbdjccmlgdfapaa
