/-
  Plain: the document's reading of a column, refusal by refusal; what is spread over the rows. What the document's own Open answers. The document's own Open. What Open finds in bytes, by the document's reading; cells and texts lie in no chunk's block. Two lists of cells that a call owns, one beside the other.
-/
import Derived.Test.YtnmonoafjijfhaaGreatM54
import Derived.Test.YtnmonoafjijfhaaGreatM25
import Derived.Test.YtnmonoafjijfhaaGreatM33
import Derived.Deep.CutBlock
import Derived.Test.YtnmonoafjijfhaaGreatM53
namespace Go.Proofs.YtnmonoafjijfhaaGreat
open Go.RowKit
set_option linter.unusedVariables false
set_option linter.unusedSimpArgs false
namespace Ck
/-- What stands behind the marks. -/
def ptail (b : List UInt8) (F : Nat) (mk : List Nat) (k : Nat) : Option (Nat × List Nat × List (List UInt8) × List Ce) :=
  if F = 1 then
    if (rdI b (nought mk) k []).2.2 ≠ 0 then none else some (1, mk, [], (rdI b (nought mk) k []).1)
  else if F = 2 then
    if (T.dec b (k : Nat)).2.2 ≠ 0 then none else
    if (R.dec b ((T.dec b (k : Nat)).2.1 : Nat) (nought mk : Nat) (dw (T.dec b (k : Nat)).1.length : Nat)).2.2 ≠ 0 then none else
    if (R.dec b ((T.dec b (k : Nat)).2.1 : Nat) (nought mk : Nat) (dw (T.dec b (k : Nat)).1.length : Nat)).1.all (fun p => decide (p < (T.dec b (k : Nat)).1.length)) = true then
      some (2, mk, (T.dec b (k : Nat)).1, (R.dec b ((T.dec b (k : Nat)).2.1 : Nat) (nought mk : Nat) (dw (T.dec b (k : Nat)).1.length : Nat)).1.map fun p => tc ((T.dec b (k : Nat)).1.getD p []))
    else none
  else
    if (T.rd b (nought mk) k []).2.2 ≠ 0 then none else some (3, mk, [], (T.rd b (nought mk) k []).1.map tc)
theorem parse_1 {b : List UInt8} {F k1 e1 : Nat} (h1 : M.get b 0 = (F, k1, e1)) (h : e1 ≠ 0 ∨ F < 1 ∨ 3 < F) : parse b = none := by
  unfold parse
  rw [h1]
  simp only
  by_cases he : e1 ≠ 0
  · rw [if_pos he]
  · rw [if_neg he, if_pos (by omega)]
theorem parse_2 {b : List UInt8} {F k1 N k2 e2 : Nat} (h1 : M.get b 0 = (F, k1, 0)) (h2 : M.get b (k1 : Nat) = (N, k2, e2)) (h : e2 ≠ 0 ∨ 65536 < N) : parse b = none := by
  unfold parse
  rw [h1]
  simp only
  rw [if_neg (by simp), h2]
  simp only
  split
  · rfl
  · by_cases he : e2 ≠ 0
    · rw [if_pos he]
    · rw [if_neg he, if_pos (by omega)]
theorem parse_3 {b : List UInt8} {F k1 N k2 k3 e3 : Nat} {mk : List Nat} (h1 : M.get b 0 = (F, k1, 0)) (h2 : M.get b (k1 : Nat) = (N, k2, 0)) (h3 : R.dec b (k2 : Nat) (N : Nat) 1 = (mk, k3, e3)) (h : e3 ≠ 0) : parse b = none := by
  unfold parse
  rw [h1]
  simp only
  rw [if_neg (by simp), h2]
  simp only
  split
  · rfl
  · rw [if_neg (by simp)]
    split
    · rfl
    · rw [h3]
      simp only
      rw [if_pos h]
theorem parse_4 {b : List UInt8} {F k1 N k2 k3 : Nat} {mk : List Nat} (h1 : M.get b 0 = (F, k1, 0)) (h2 : M.get b (k1 : Nat) = (N, k2, 0)) (h3 : R.dec b (k2 : Nat) (N : Nat) 1 = (mk, k3, 0)) (hF : ¬ (F < 1 ∨ 3 < F)) (hN : ¬ 65536 < N) : parse b = ptail b F mk k3 := by
  unfold parse ptail
  rw [h1]
  simp only
  rw [if_neg (by simp), if_neg hF, h2]
  simp only
  rw [if_neg (by simp), if_neg hN, h3]
  simp only
  rw [if_neg (by simp)]
theorem opn_none {b : List UInt8} (h : parse b = none) : opn b = none := by unfold opn; rw [h]
theorem opn_some {b : List UInt8} {F : Nat} {mk : List Nat} {D : List (List UInt8)} {vs : List Ce} (h : parse b = some (F, mk, D, vs)) : opn b = if encE (kindOf F) (spr mk vs) = (b, 0) then some (kindOf F, spr mk vs, D) else none := by unfold opn; rw [h]
theorem nought_take {z : List Nat} {i : Nat} (h : i < z.length) : nought (z.take (i + 1)) = nought (z.take i) + if z[i] = 0 then 1 else 0 := by
  rw [List.take_succ_eq_append_getElem h]
  unfold nought
  rw [List.countP_append]
  by_cases h0 : z[i] = 0 <;> simp [h0]
theorem nought_mono (z : List Nat) (i : Nat) : nought (z.take i) ≤ nought z := by
  unfold nought
  exact List.Sublist.countP_le (List.take_sublist i z)
/-- One row more. -/
theorem spr_take : ∀ (z : List Nat) (vs : List Ce) (i : Nat) (h : i < z.length), (spr z vs).take (i + 1) = (spr z vs).take i ++ [if z[i] = 0 then (vs.drop (nought (z.take i))).headD Rw.none_ else Rw.none_]
  | [], _, i, h => by simp at h
  | m :: z, vs, 0, h => by
    rw [spr]
    by_cases hm : m = 0
    · rw [if_pos hm]; simp [hm, nought]
    · rw [if_neg hm]; simp [hm]
  | m :: z, vs, i + 1, h => by
    have ih := fun ws => spr_take z ws i (by simpa using h)
    rw [spr]
    by_cases hm : m = 0
    · have hn : nought ((m :: z).take (i + 1)) = nought (z.take i) + 1 := by simp [nought, hm]
      rw [if_pos hm, List.take_succ_cons, List.take_succ_cons, ih vs.tail, hn]
      cases vs with
      | nil => simp
      | cons v r => simp
    · have hn : nought ((m :: z).take (i + 1)) = nought (z.take i) := by simp [nought, hm]
      rw [if_neg hm, List.take_succ_cons, List.take_succ_cons, ih vs, hn]
      simp
theorem spr_mem : ∀ (z : List Nat) (vs : List Ce), ∀ c ∈ spr z vs, c = Rw.none_ ∨ c ∈ vs
  | [], _, c, h => by simp [spr] at h
  | m :: z, vs, c, h => by
    rw [spr] at h
    split at h
    · rcases List.mem_cons.1 h with rfl | h
      · cases vs with
        | nil => exact .inl rfl
        | cons v r => exact .inr (by simp)
      · rcases spr_mem z vs.tail c h with h | h
        · exact .inl h
        · exact .inr (List.mem_of_mem_tail h)
    · rcases List.mem_cons.1 h with rfl | h
      · exact .inl rfl
      · exact spr_mem z vs c h
theorem rdI_step {b : List UInt8} {n k : Nat} {o : List Ce} {N k1 e1 : Nat} (h : M.get b (k : Nat) = (N, k1, e1)) : rdI b (n + 1) k o = if e1 ≠ 0 then ([], 0, e1) else rdI b n k1 (o ++ [ic N]) := by rw [rdI, h]
theorem trd_step {b : List UInt8} {n k : Nat} {o : List (List UInt8)} {s : List UInt8} {k1 e1 : Nat} (h : M.getText b (k : Nat) 40 = (s, k1, e1)) : T.rd b (n + 1) k o = if e1 ≠ 0 then ([], 0, e1) else T.rd b n k1 (o ++ [s]) := by rw [T.rd, h]
theorem dw_is {n j : Nat} (h1 : n ≤ 2 ^ j) (h2 : ∀ i, i < j → 2 ^ i < n) : dw n = j := by
  unfold dw
  apply Nat.le_antisymm
  · rw [B.wid_le]
    have : 0 < 2 ^ j := Nat.pow_pos (by decide)
    omega
  · rcases Nat.lt_or_ge (B.wid (n - 1)) j with h | h
    · have h3 := h2 _ h
      have h4 := (B.wid_le (n - 1) _).1 (Nat.le_refl _)
      omega
    · exact h
end Ck
/-- What the document's own Open answers. -/
def ROpen (b : List UInt8) (v : Value) (w : World) : Prop :=
  (Ck.opn b = none → v = .tuple #[.int .i64 0, .slice none 0 0, .slice none 0 0, .bool false]) ∧
  (∀ K L D, Ck.opn b = some (K, L, D) → ∃ a c a2 c2, v = .tuple #[.int .i64 K, .slice a L.length c, .slice a2 D.length c2, .bool true] ∧ RdC w a c L ∧ Rd st w a2 c2 D)
theorem ropen_none {b : List UInt8} (h : Ck.opn b = none) (w : World) : ROpen b (.tuple #[.int .i64 0, .slice none 0 0, .slice none 0 0, .bool false]) w := ⟨fun _ => rfl, fun K L D h2 => by rw [h] at h2; cases h2⟩
theorem ropen_yes {b : List UInt8} {K : Int} {L : List Ce} {D : List (List UInt8)} {a a2 : Option Addr} {n m c c2 : Nat} {w : World} (h : Ck.opn b = some (K, L, D)) (hn : n = L.length) (hm : m = D.length) (hR : RdC w a c L) (hD : Rd st w a2 c2 D) : ROpen b (.tuple #[.int .i64 K, .slice a n c, .slice a2 m c2, .bool true]) w := by
  subst hn
  subst hm
  refine ⟨fun h2 => (by rw [h] at h2; cases h2), fun K' L' D' h2 => ?_⟩
  rw [h] at h2
  simp only [Option.some.injEq, Prod.mk.injEq] at h2
  obtain ⟨rfl, rfl, rfl⟩ := h2
  exact ⟨a, c, a2, c2, rfl, hR, hD⟩
/-- A cell as Open reads it. -/
def Okc (c : Ce) : Prop := In64 c.n ∧ c.s.length ≤ maxLen
theorem okc_none : Okc Rw.none_ := ⟨⟨by decide, by decide⟩, by simp [Rw.none_]⟩
theorem okc_ic {v : Nat} (h : v < 18446744073709551616) : Okc (Ck.ic v) := ⟨Rw.zag_in h, by simp [Ck.ic]⟩
theorem in0 : In64 0 := ⟨by decide, by decide⟩
theorem okc_tc {s : List UInt8} (h : s.length ≤ 40) : Okc (Ck.tc s) := ⟨in0, by simp [Ck.tc, maxLen]; omega⟩
theorem okc_spr {z : List Nat} {vs : List Ce} (h : ∀ c ∈ vs, Okc c) : ∀ c ∈ Ck.spr z vs, Okc c := fun c hc => (Ck.spr_mem z vs c hc).elim (fun e => e ▸ okc_none) (h c)
theorem headD0 {l : List Ce} (h : 0 < l.length) : l.headD Rw.none_ = l[0] := by
  cases l with
  | nil => simp at h
  | cons y r => rfl
/-- 'vals[1:]' -/
theorem cut26 (b off n cap : Nat) (h1 : 1 ≤ n) (hn : n ≤ cap) (hc : cap ≤ maxLen) : ∃ a', (∀ w, (Instr.sliceAt 26 (.slice (some ⟨b, off, none⟩) n cap) (some (.int .i64 1)) none none).run Tryz.prog w = .ok (.slice a' (n - 1) (cap - 1)) w) ∧ ∀ (w : World) (l : List Ce), l.length = n → RdC w (some ⟨b, off, none⟩) cap l → RdC w a' (cap - 1) (l.drop 1) := by
  unfold maxLen at hc
  have i0 : (1 : Int) ≤ (n : Int) := by omega
  have i1 : (n : Int) ≤ (cap : Int) := by omega
  have i3 : cap ≤ 9223372036854775807 := by omega
  by_cases h : cap = 1
  · have hn1 : n = 1 := by omega
    subst h
    subst hn1
    refine ⟨some ⟨b, off, none⟩, fun w => ?_, fun w l hl hr => ?_⟩
    · go_simp
    · have e : l.drop 1 = [] := List.eq_nil_of_length_eq_zero (by simp; omega)
      rw [e]
      exact ⟨by simp, by simp [maxLen], by simp, fun i x hi => by simp at hi⟩
  · have hne : ¬ cap - 1 = 0 := by omega
    have hs : Tryz.prog.cellsOf 28 = 4 := by kernel_rfl
    refine ⟨some ⟨b, off + 1 * 4, none⟩, fun w => ?_, fun w l hl hr => hr.from 1 (by omega)⟩
    go_simp
end Go.Proofs.YtnmonoafjijfhaaGreat
namespace Go.Proofs.YtnmonoafjijfhaaGreat
open Go.RowKit
set_option linter.unusedVariables false
set_option linter.unusedSimpArgs false
/-- What the switch leaves: cells, texts. -/
def OAt (b : List UInt8) (F : Nat) (mk : List Nat) (v13 v14 v15 : Value) (w0 w : World) : Prop :=
  ∃ (a14 : Option Addr) (c14 : Nat) (vs : List Ce) (a15 : Option Addr) (c15 : Nat) (D : List (List UInt8)), v13 = .int .i64 (Ck.kindOf F) ∧ v14 = .slice a14 vs.length c14 ∧ v15 = .slice a15 D.length c15 ∧
    RdC w a14 c14 vs ∧ Rd st w a15 c15 D ∧ Ck.parse b = some (F, mk, D, vs) ∧ vs.length = Ck.nought mk ∧ (∀ c ∈ vs, Okc c) ∧ Ex w0 w
set_option maxHeartbeats 8000000 in
set_option maxRecDepth 100000 in
theorem ropen15_is (a : Option Addr) (len cap : Nat) (b : List UInt8) (w : World) (hlen : len = b.length) (hB : Byt w a cap b) (hbl : b.length ≤ 140737488355328) :
    Calls Tryz.prog 12 #[.slice a len cap] w fun e w' => ∃ v, e = .returned v ∧ ROpen b v w' ∧ Ex w w' := by
  have HLen : Hid (len = b.length) := hlen
  have HB : Hid (Byt w a cap b) := hB
  have hbl2 : len ≤ 140737488355328 := by omega
  obtain ⟨⟨F, k1, e1⟩, h1⟩ : ∃ x, M.get b 0 = x := ⟨_, rfl⟩
  have H1 : Hid (M.get b 0 = (F, k1, e1)) := h1
  have hF64 : F < 18446744073709551616 := by have := (M.get_all b 0).1; rw [h1] at this; exact this
  clear hlen hB hbl h1
  go_enter Tryz.func12, Tryz.ntmps12
  go_wp2_with fail
  go_at_call 48
  refine (rget_is a len cap b 0 w F k1 e1 H1.out HB.out HLen.out).mono ?_
  rintro e2 wq ⟨rfl, hwq⟩
  have hwq' := hwq.symm; clear hwq; subst hwq'
  by_cases he1 : e1 ≠ 0
  · have t1 : ((e1 : Int) != 0) = true := by simp; omega
    have HNo : Hid (Ck.opn b = none) := Ck.opn_none (Ck.parse_1 H1.out (.inl he1))
    clear he1
    go_wp2_with fail
    refine bodyPost_ret (v := .tuple #[.int .i64 0, .slice none 0 0, .slice none 0 0, .bool false]) (by simp [results, Tryz.results12, go_sem]) rfl ⟨_, rfl, ropen_none HNo.out _, Ex.refl _⟩
  have he10 : e1 = 0 := by omega
  subst he10
  clear he1
  by_cases hF : F < 1 ∨ 3 < F
  · have HNo : Hid (Ck.opn b = none) := Ck.opn_none (Ck.parse_1 H1.out (.inr hF))
    by_cases hF1 : F < 1
    · have hF0 : F = 0 := by omega
      subst hF0
      clear hF hF1
      go_wp2_with fail
      refine bodyPost_ret (v := .tuple #[.int .i64 0, .slice none 0 0, .slice none 0 0, .bool false]) (by simp [results, Tryz.results12, go_sem]) rfl ⟨_, rfl, ropen_none HNo.out _, Ex.refl _⟩
    · have h3 : 3 < F := by omega
      have h3i : (3 : Int) < (F : Int) := by omega
      have h1i : ¬ (F : Int) < 1 := by omega
      clear hF
      go_wp2_with fail
      refine bodyPost_ret (v := .tuple #[.int .i64 0, .slice none 0 0, .slice none 0 0, .bool false]) (by simp [results, Tryz.results12, go_sem]) rfl ⟨_, rfl, ropen_none HNo.out _, Ex.refl _⟩
  have hF1 : ¬ F < 1 := by omega
  have hF3 : ¬ 3 < F := by omega
  have hF1i : ¬ (F : Int) < 1 := by omega
  have hF3i : ¬ (3 : Int) < (F : Int) := by omega
  have HFF : Hid (¬ (F < 1 ∨ 3 < F)) := hF
  clear hF
  obtain ⟨⟨N, k2, e2⟩, h2⟩ : ∃ x, M.get b (k1 : Nat) = x := ⟨_, rfl⟩
  have H2 : Hid (M.get b (k1 : Nat) = (N, k2, e2)) := h2
  have hN64 : N < 18446744073709551616 := by have := (M.get_all b (k1 : Nat)).1; rw [h2] at this; exact this
  clear h2
  go_wp2_with fail
  go_at_call 48
  refine (rget_is a len cap b (k1 : Nat) w N k2 e2 H2.out HB.out HLen.out).mono ?_
  rintro e2 wq ⟨rfl, hwq⟩
  have hwq' := hwq.symm; clear hwq; subst hwq'
  rename Nat => e2
  by_cases he2 : e2 ≠ 0
  · have t1 : ((e2 : Int) != 0) = true := by simp; omega
    have HNo : Hid (Ck.opn b = none) := Ck.opn_none (Ck.parse_2 H1.out H2.out (.inl he2))
    clear he2
    go_wp2_with fail
    refine bodyPost_ret (v := .tuple #[.int .i64 0, .slice none 0 0, .slice none 0 0, .bool false]) (by simp [results, Tryz.results12, go_sem]) rfl ⟨_, rfl, ropen_none HNo.out _, Ex.refl _⟩
  have he20 : e2 = 0 := by omega
  subst he20
  clear he2
  by_cases hN : 65536 < N
  · have HNo : Hid (Ck.opn b = none) := Ck.opn_none (Ck.parse_2 H1.out H2.out (.inr hN))
    have hNi : (65536 : Int) < (N : Int) := by omega
    go_wp2_with fail
    refine bodyPost_ret (v := .tuple #[.int .i64 0, .slice none 0 0, .slice none 0 0, .bool false]) (by simp [results, Tryz.results12, go_sem]) rfl ⟨_, rfl, ropen_none HNo.out _, Ex.refl _⟩
  have hNi : ¬ (65536 : Int) < (N : Int) := by omega
  have hN6 : N ≤ 65536 := by omega
  have HNN : Hid (¬ 65536 < N) := hN
  obtain ⟨⟨mk, k3, e3⟩, h3⟩ : ∃ x, R.dec b (k2 : Nat) (N : Nat) 1 = x := ⟨_, rfl⟩
  have H3 : Hid (R.dec b (k2 : Nat) (N : Nat) 1 = (mk, k3, e3)) := h3
  clear h3
  go_wp2_with fail
  go_at_call 49
  refine (rdec_is a len cap b (k2 : Nat) (N : Nat) 1 w HLen.out HB.out (by rw [← HLen.out]; exact hbl2) mk k3 e3 H3.out).mono ?_
  rintro e4 w4 ⟨v10, rfl, ⟨a10, c10, rfl, hr10⟩, hx4⟩
  obtain ⟨nm, hnm⟩ : ∃ nm, mk.length = nm := ⟨_, rfl⟩
  rw [hnm]
  have HNM : Hid (mk.length = nm) := hnm
  have HMk : Hid (Rd n64 w4 a10 c10 mk) := hr10
  have HX4 : Hid (Ex w w4) := hx4
  have HB4 : Hid (Byt w4 a cap b) := HB.out.below hx4
  have hc10 : nm ≤ c10 := by have := hr10.1; omega
  have hm10 := hr10.2.1
  unfold maxLen at hm10
  clear hnm hr10 hx4
  by_cases he3 : e3 ≠ 0
  · have t1 : ((e3 : Int) != 0) = true := by simp; omega
    have HNo : Hid (Ck.opn b = none) := Ck.opn_none (Ck.parse_3 H1.out H2.out H3.out he3)
    clear he3
    go_wp2_with fail
    refine bodyPost_ret (v := .tuple #[.int .i64 0, .slice none 0 0, .slice none 0 0, .bool false]) (by simp [results, Tryz.results12, go_sem]) rfl ⟨_, rfl, ropen_none HNo.out _, HX4.out⟩
  have he30 : e3 = 0 := by omega
  subst he30
  clear he3 hN
  have hok := R.dec_ok H3.out
  have hnm6 : nm ≤ 65536 := by have h := hok.2.2.2.2.2.2.1; have := HNM.out; omega
  have HB1 : Hid (∀ x ∈ mk, x ≤ 1) := (fun x hx => by have h := (B.width_le _ mk).1 hok.2.2.2.2.2.2.2.2.2.1 x hx; simp at h; omega : ∀ x ∈ mk, x ≤ 1)
  have HPt : Hid (Ck.parse b = Ck.ptail b F mk k3) := Ck.parse_4 H1.out H2.out H3.out HFF.out HNN.out
  clear hok
  go_wp2_with fail
  go_loop [11, 12] (fun cv iv => ∃ i : Nat, i ≤ nm ∧ iv = .int .i64 (i : Int) ∧ cv = .int .i64 (Ck.nought (mk.take i) : Int)) (fun cv iv => nm - (intOf iv).toNat)
  case atStart => exact ⟨0, by omega, rfl, rfl⟩
  case round =>
    obtain ⟨i, hi, rfl, rfl⟩ := hrel
    by_cases hlt : i < nm
    · have ti : (i : Int) < (nm : Int) := by omega
      have hlt2 : i < mk.length := by rw [HNM.out]; exact hlt
      obtain ⟨bq, off, hax, hc⟩ := HMk.out.at hlt2
      have hnt := Ck.nought_take hlt2
      obtain ⟨x, hx⟩ : ∃ x, mk[i] = x := ⟨_, rfl⟩
      rw [hx] at hc hnt
      have hc' : w4.cell? ⟨bq, off + i, none⟩ = some (.int .u64 (x : Int)) := hc
      obtain ⟨K, hK⟩ : ∃ K, Ck.nought (mk.take i) = K := ⟨_, rfl⟩
      have hK6 : K ≤ 65536 := by rw [← hK]; have := Ck.nought_mono mk i; have := Ck.nought_le mk; have := HNM.out; omega
      rw [hK] at hnt ⊢
      have HNt : Hid (Ck.nought (mk.take (i + 1)) = K + if x = 0 then 1 else 0) := hnt
      subst hax
      clear hx hK hnt hc
      by_cases h0 : x = 0
      · subst h0
        go_wp2_with fail
        go_round
        case rel => exact ⟨i + 1, by omega, by go_num, by rw [HNt.out]; go_num⟩
        case measure => simp [intOf]; omega
      · have t0 : ((x : Int) == 0) = false := by simp; omega
        have t0n : (x == 0) = false := by simp; omega
        go_wp2_with fail
        go_round
        case rel => exact ⟨i + 1, by omega, by go_num, by rw [HNt.out, if_neg h0]; go_num⟩
        case measure => simp [intOf]; omega
    · have ti : ¬ (i : Int) < (nm : Int) := by omega
      have him : mk.take i = mk := List.take_of_length_le (by rw [HNM.out]; omega)
      rw [him]
      obtain ⟨cnt, hcnt⟩ : ∃ cnt, Ck.nought mk = cnt := ⟨_, rfl⟩
      have hcnt6 : cnt ≤ 65536 := by rw [← hcnt]; have := Ck.nought_le mk; have := HNM.out; omega
      rw [hcnt]
      have HCnt : Hid (Ck.nought mk = cnt) := hcnt
      clear him hcnt
      go_upto_block 2 with fail
      go_cut [7, 13, 14, 15] (fun _ v13 v14 v15 wx => Hid (OAt b F mk v13 v14 v15 w4 wx))
      case first =>
        have hF123 : F = 1 ∨ F = 2 ∨ F = 3 := by omega
        have hB4l : len ≤ cap := by have := HB.out.1; have := HLen.out; omega
        clear hF1 hF3 hF1i hF3i hF64 HFF H1 H2 H3 HNN HMk
        rcases hF123 with rfl | rfl | rfl
        · have hpt := HPt.out
          unfold Ck.ptail at hpt
          rw [if_pos rfl, HCnt.out] at hpt
          have HP : Hid (Ck.parse b = if (Ck.rdI b cnt k3 []).2.2 ≠ 0 then none else some (1, mk, [], (Ck.rdI b cnt k3 []).1)) := hpt
          have hO0 : Hid (OwnC w4 w4.heap.size (.slice none 0 0) []) := ownW_none _ _
          have hI0 : Hid (Ck.rdI b cnt k3 [] = Ck.rdI b (cnt - 0) k3 []) := rfl
          have hK0 : Hid (∀ c ∈ ([] : List Ce), Okc c) := (by simp : ∀ c ∈ ([] : List Ce), Okc c)
          clear hpt HPt
          go_wp2_with fail
          go_loopw [7, 14, 16, 17, 18, 19] (fun kv vv iv _ _ _ wr => ∃ (i k : Nat) (o : List Ce), i ≤ cnt ∧ iv = .int .i64 (i : Int) ∧ kv = .int .i64 (k : Int) ∧ o.length ≤ i ∧ Hid (o.length = i) ∧ Hid (Ck.rdI b cnt k3 [] = Ck.rdI b (cnt - i) k o) ∧ Hid (OwnC wr w4.heap.size vv o) ∧ Hid (∀ c ∈ o, Okc c) ∧ Hid (Ex w4 wr)) (fun _ _ iv _ _ _ wr => cnt - (intOf iv).toNat)
          case atStart => exact ⟨0, k3, [], by omega, rfl, rfl, by simp, rfl, hI0, hO0, hK0, Ex.refl _⟩
          case round =>
            clear hO0 hI0 hK0
            obtain ⟨i, k, o, hi, rfl, rfl, hol, HOl, HI, HO, HK, HX⟩ := hrel
            have hsz : w4.heap.size ≤ wr.heap.size := HX.out.size
            by_cases hlt : i < cnt
            · have ti : (i : Int) < (cnt : Int) := by omega
              obtain ⟨m, hm⟩ : ∃ m, cnt - i = m + 1 := ⟨cnt - i - 1, by omega⟩
              obtain ⟨⟨N', k', e'⟩, hg⟩ : ∃ x, M.get b (k : Nat) = x := ⟨_, rfl⟩
              have hN' : N' < 18446744073709551616 := by have := (M.get_all b (k : Nat)).1; rw [hg] at this; exact this
              have hst := Ck.rdI_step (n := m) (o := o) hg
              have hI := HI.out
              rw [hm, hst] at hI
              have HG : Hid (M.get b (k : Nat) = (N', k', e')) := hg
              have HI2 : Hid (Ck.rdI b cnt k3 [] = if e' ≠ 0 then ([], 0, e') else Ck.rdI b m k' (o ++ [Ck.ic N'])) := hI
              have hm2 : m = cnt - (i + 1) := by omega
              have HM2 : Hid (m = cnt - (i + 1)) := hm2
              clear hg hst hI hm hm2 HI
              go_wp2_with fail
              go_at_call 48
              refine (rget_is a len cap b (k : Nat) wr N' k' e' HG.out (HB4.out.below HX.out) HLen.out).mono ?_
              rintro e5 wq ⟨rfl, hwq⟩
              have hwq' := hwq.symm; clear hwq; subst hwq'
              by_cases he : e' ≠ 0
              · have t1 : ((e' : Int) != 0) = true := by simp; omega
                have HNo : Hid (Ck.opn b = none) := Ck.opn_none (by rw [HP.out, HI2.out, if_pos he, if_pos (by exact he)])
                clear he
                go_wp2_with fail
                refine bodyPost_ret (v := .tuple #[.int .i64 0, .slice none 0 0, .slice none 0 0, .bool false]) (by simp [results, Tryz.results12, go_sem]) rfl ⟨_, rfl, ropen_none HNo.out _, HX4.out.trans HX.out⟩
              · have he0 : e' = 0 := by omega
                subst he0
                clear he
                have hI := HI2.out
                rw [if_neg (by simp), HM2.out] at hI
                have HI3 : Hid (Ck.rdI b cnt k3 [] = Ck.rdI b (cnt - (i + 1)) k' (o ++ [Ck.ic N'])) := hI
                have hlaid := RdW.laid (t := 28) cc_len wr [Ck.ic N'] (by simp)
                have HLaid : Hid (RdC (wr.alloc (.cells (flat cc [Ck.ic N']).toArray 28)) (some ⟨wr.heap.size, 0, none⟩) 1 [Ck.ic N']) := hlaid
                have HKn : Hid (∀ c ∈ o ++ [Ck.ic N'], Okc c) := (fun c hc => by
                  rcases List.mem_append.1 hc with h | h
                  · exact HK.out c h
                  · rw [List.mem_singleton] at h; subst h; exact okc_ic hN' : ∀ c ∈ o ++ [Ck.ic N'], Okc c)
                have HOn : Hid ((o ++ [Ck.ic N']).length = i + 1) := (by rw [List.length_append, HOl.out]; rfl : (o ++ [Ck.ic N']).length = i + 1)
                have hon : (o ++ [Ck.ic N']).length ≤ i + 1 := by rw [List.length_append]; simp; omega
                clear hI hlaid HI2 HK HOl
                go_wp2_with fail
                go_at_call 50
                refine (rzag_any (N' : Int) (M.zag (N' : Int)) wr (by omega) (by omega) rfl).mono ?_
                rintro e6 wq ⟨rfl, hwq⟩
                have hwq' := hwq.symm; clear hwq; subst hwq'
                go_wp2_with (at_builtin; refine wpList_append_wide cc_len cc_one rfl (.tmp 124) (.tmp 128) 26 _ 48 rfl Tryz.underlying26 Tryz.info28 (by omega) rfl w4.heap.size _ o rfl (OwnW.alloc HO.out _) (some ⟨wr.heap.size, 0, none⟩) 1 1 [Ck.ic N'] rfl rfl HLaid.out (by simp [maxLen]; omega) (by simp; omega) (by simp; omega) ?_; intro v9 w9 ho9 hg9 _; have X9 : Ex w4 w9 := step_belowW (Below.alloc HX.out hsz _) (by simp; omega) (OwnW.alloc HO.out _) hg9; clear hg9)
                have HO9 : Hid (OwnC w9 w4.heap.size v9 (o ++ [Ck.ic N'])) := ho9
                have HX9 : Hid (Ex w4 w9) := X9
                clear ho9 X9 HX HO
                go_wp2_with fail
                go_roundw
                case rel => exact ⟨i + 1, k', o ++ [Ck.ic N'], by omega, by go_num, rfl, hon, HOn, HI3, HO9, HKn, HX9⟩
                case measure => simp [intOf]; omega
            · have ti : ¬ (i : Int) < (cnt : Int) := by omega
              have hic : cnt - i = 0 := by omega
              have hI := HI.out
              rw [hic] at hI
              have hp := HP.out
              rw [hI] at hp
              have hp2 : Ck.parse b = some (1, mk, [], o) := by rw [hp]; simp [Ck.rdI]
              obtain ⟨a14, c14, h14, hr14⟩ := HO.out.rd cc_len
              have hoc : o.length = cnt := by rw [HOl.out]; omega
              have HAt : Hid (OAt b 1 mk (.int .i64 1) u14 (.slice none 0 0) w4 wr) := ⟨a14, c14, o, none, 0, [], rfl, h14, rfl, hr14, Rd.nil _, hp2, by rw [hoc, HCnt.out], HK.out, HX.out⟩
              clear hI hp hp2 hic h14 hr14 hoc HO HK HI
              go_wp2_with fail
              go_meet
              exact HAt
        · have hpt := HPt.out
          unfold Ck.ptail at hpt
          rw [if_neg (by decide), if_pos rfl, HCnt.out] at hpt
          obtain ⟨⟨D, k4, e4⟩, hd⟩ : ∃ x, T.dec b (k3 : Nat) = x := ⟨_, rfl⟩
          rw [hd] at hpt
          simp only at hpt
          have HTd : Hid (T.dec b (k3 : Nat) = (D, k4, e4)) := hd
          have HP : Hid (Ck.parse b = if e4 ≠ 0 then none else if (R.dec b (k4 : Nat) (cnt : Nat) (Ck.dw D.length : Nat)).2.2 ≠ 0 then none else if (R.dec b (k4 : Nat) (cnt : Nat) (Ck.dw D.length : Nat)).1.all (fun p => decide (p < D.length)) = true then some (2, mk, D, (R.dec b (k4 : Nat) (cnt : Nat) (Ck.dw D.length : Nat)).1.map fun p => Ck.tc (D.getD p [])) else none) := hpt
          clear hpt hd HPt
          go_wp2_with fail
          go_at_call 51
          refine (rdecode_is a len cap b (k3 : Nat) w4 HLen.out HB4.out D k4 e4 HTd.out).mono ?_
          rintro e5 w5 ⟨v5, rfl, ⟨a20, c20, rfl, hr20⟩, hx5⟩
          obtain ⟨nD, hnD⟩ : ∃ nD, D.length = nD := ⟨_, rfl⟩
          rw [hnD]
          have HND : Hid (D.length = nD) := hnD
          have HD5 : Hid (Rd st w5 a20 c20 D) := hr20
          have HX5 : Hid (Ex w4 w5) := hx5
          have hc20 : nD ≤ c20 := by have := hr20.1; omega
          have hm20 := hr20.2.1
          unfold maxLen at hm20
          have hp := HP.out
          rw [hnD] at hp
          have HP2 : Hid (Ck.parse b = if e4 ≠ 0 then none else if (R.dec b (k4 : Nat) (cnt : Nat) (Ck.dw nD : Nat)).2.2 ≠ 0 then none else if (R.dec b (k4 : Nat) (cnt : Nat) (Ck.dw nD : Nat)).1.all (fun p => decide (p < nD)) = true then some (2, mk, D, (R.dec b (k4 : Nat) (cnt : Nat) (Ck.dw nD : Nat)).1.map fun p => Ck.tc (D.getD p [])) else none) := hp
          clear hnD hr20 hx5 hp HP
          by_cases he : e4 ≠ 0
          · have t1 : ((e4 : Int) != 0) = true := by simp; omega
            have HNo : Hid (Ck.opn b = none) := Ck.opn_none (by rw [HP2.out, if_pos he])
            clear he
            go_wp2_with fail
            refine bodyPost_ret (v := .tuple #[.int .i64 0, .slice none 0 0, .slice none 0 0, .bool false]) (by simp [results, Tryz.results12, go_sem]) rfl ⟨_, rfl, ropen_none HNo.out _, HX4.out.trans HX5.out⟩
          have he0 : e4 = 0 := by omega
          subst he0
          clear he
          have hp := HP2.out
          rw [if_neg (by simp)] at hp
          have HP3 : Hid (Ck.parse b = if (R.dec b (k4 : Nat) (cnt : Nat) (Ck.dw nD : Nat)).2.2 ≠ 0 then none else if (R.dec b (k4 : Nat) (cnt : Nat) (Ck.dw nD : Nat)).1.all (fun p => decide (p < nD)) = true then some (2, mk, D, (R.dec b (k4 : Nat) (cnt : Nat) (Ck.dw nD : Nat)).1.map fun p => Ck.tc (D.getD p [])) else none) := hp
          have hfit := (T.fits_iff D).1 ((T.dec_all HTd.out).1 rfl).1
          have hD16 : nD ≤ 16 := by have := hfit.2.1; have := HND.out; omega
          have HS40 : Hid (∀ s ∈ D, s.length ≤ 40) := hfit.1
          clear hp HP2 hfit
          go_upto_block 7 with fail
          go_cut [23] (fun v wx => v = .int .i64 (Ck.dw nD : Int) ∧ wx = w5)
          case first =>
            have hj0 : Hid (∀ i, i < 0 → 2 ^ i < nD) := (fun i hi => by omega : ∀ i, i < 0 → 2 ^ i < nD)
            go_wp2_with fail
            go_loop [23] (fun wv => ∃ j : Nat, j ≤ 4 ∧ wv = .int .i64 (j : Int) ∧ Hid (∀ i, i < j → 2 ^ i < nD)) (fun wv => 4 - (intOf wv).toNat)
            case atStart => exact ⟨0, by omega, rfl, hj0⟩
            case round =>
              clear hj0
              obtain ⟨j, hj, rfl, HJ⟩ := hrel
              by_cases hlt : 2 ^ j < nD
              · have HJ2 : Hid (∀ i, i < j + 1 → 2 ^ i < nD) := (fun i hi => by
                  rcases Nat.lt_or_ge i j with h | h
                  · exact HJ.out i h
                  · have : i = j := by omega
                    rw [this]; exact hlt : ∀ i, i < j + 1 → 2 ^ i < nD)
                have hj4 : j = 0 ∨ j = 1 ∨ j = 2 ∨ j = 3 ∨ j = 4 := by omega
                rcases hj4 with rfl | rfl | rfl | rfl | rfl
                · have tj : (1 : Int) < (nD : Int) := by simp at hlt; omega
                  clear hlt
                  go_wp2_with fail
                  go_round
                  case rel => exact ⟨1, by omega, rfl, HJ2⟩
                  case measure => simp [intOf]
                · have tj : (2 : Int) < (nD : Int) := by simp at hlt; omega
                  clear hlt
                  go_wp2_with fail
                  go_round
                  case rel => exact ⟨2, by omega, rfl, HJ2⟩
                  case measure => simp [intOf]
                · have tj : (4 : Int) < (nD : Int) := by simp at hlt; omega
                  clear hlt
                  go_wp2_with fail
                  go_round
                  case rel => exact ⟨3, by omega, rfl, HJ2⟩
                  case measure => simp [intOf]
                · have tj : (8 : Int) < (nD : Int) := by simp at hlt; omega
                  clear hlt
                  go_wp2_with fail
                  go_round
                  case rel => exact ⟨4, by omega, rfl, HJ2⟩
                  case measure => simp [intOf]
                · exfalso; simp at hlt; omega
              · have HDw : Hid (Ck.dw nD = j) := Ck.dw_is (by omega) HJ.out
                have hj4 : j = 0 ∨ j = 1 ∨ j = 2 ∨ j = 3 ∨ j = 4 := by omega
                rcases hj4 with rfl | rfl | rfl | rfl | rfl
                · have tj : ¬ (1 : Int) < (nD : Int) := by simp at hlt; omega
                  clear hlt
                  go_wp2_with fail
                  go_meet
                  exact ⟨by rw [HDw.out]; rfl, rfl⟩
                · have tj : ¬ (2 : Int) < (nD : Int) := by simp at hlt; omega
                  clear hlt
                  go_wp2_with fail
                  go_meet
                  exact ⟨by rw [HDw.out]; rfl, rfl⟩
                · have tj : ¬ (4 : Int) < (nD : Int) := by simp at hlt; omega
                  clear hlt
                  go_wp2_with fail
                  go_meet
                  exact ⟨by rw [HDw.out]; rfl, rfl⟩
                · have tj : ¬ (8 : Int) < (nD : Int) := by simp at hlt; omega
                  clear hlt
                  go_wp2_with fail
                  go_meet
                  exact ⟨by rw [HDw.out]; rfl, rfl⟩
                · have tj : ¬ (16 : Int) < (nD : Int) := by simp at hlt; omega
                  clear hlt
                  go_wp2_with fail
                  go_meet
                  exact ⟨by rw [HDw.out]; rfl, rfl⟩
          case rest =>
            obtain ⟨rfl, hwx⟩ := hcut
            have hwx' := hwx.symm
            clear hwx
            subst hwx'
            obtain ⟨⟨p, k5, e5⟩, hp⟩ : ∃ x, R.dec b (k4 : Nat) (cnt : Nat) (Ck.dw nD : Nat) = x := ⟨_, rfl⟩
            have HRd : Hid (R.dec b (k4 : Nat) (cnt : Nat) (Ck.dw nD : Nat) = (p, k5, e5)) := hp
            have hp2 := HP3.out
            rw [hp] at hp2
            simp only at hp2
            have HP4 : Hid (Ck.parse b = if e5 ≠ 0 then none else if p.all (fun q => decide (q < nD)) = true then some (2, mk, D, p.map fun q => Ck.tc (D.getD q [])) else none) := hp2
            clear hp hp2 HP3
            go_wp2_with fail
            go_at_call 49
            refine (rdec_is a len cap b (k4 : Nat) (cnt : Nat) (Ck.dw nD : Nat) w5 HLen.out (HB4.out.below HX5.out) (by rw [← HLen.out]; exact hbl2) p k5 e5 HRd.out).mono ?_
            rintro e6 w6 ⟨v6, rfl, ⟨a24, c24, rfl, hr24⟩, hx6⟩
            obtain ⟨np, hnp⟩ : ∃ np, p.length = np := ⟨_, rfl⟩
            rw [hnp]
            have HNP : Hid (p.length = np) := hnp
            have HP6 : Hid (Rd n64 w6 a24 c24 p) := hr24
            have HX6 : Hid (Ex w4 w6) := HX5.out.trans hx6
            have HD6 : Hid (Rd st w6 a20 c20 D) := HD5.out.below hx6
            have hc24 : np ≤ c24 := by have := hr24.1; omega
            have hm24 := hr24.2.1
            unfold maxLen at hm24
            clear hnp hr24 hx6 HX5 HD5
            by_cases he : e5 ≠ 0
            · have t1 : ((e5 : Int) != 0) = true := by simp; omega
              have HNo : Hid (Ck.opn b = none) := Ck.opn_none (by rw [HP4.out, if_pos he])
              clear he
              go_wp2_with fail
              refine bodyPost_ret (v := .tuple #[.int .i64 0, .slice none 0 0, .slice none 0 0, .bool false]) (by simp [results, Tryz.results12, go_sem]) rfl ⟨_, rfl, ropen_none HNo.out _, HX4.out.trans HX6.out⟩
            have he0 : e5 = 0 := by omega
            subst he0
            clear he
            have hp := HP4.out
            rw [if_neg (by simp)] at hp
            have HP5 : Hid (Ck.parse b = if p.all (fun q => decide (q < nD)) = true then some (2, mk, D, p.map fun q => Ck.tc (D.getD q [])) else none) := hp
            have hpl := (R.dec_ok HRd.out).2.2.2.2.2.2.1
            have HPL : Hid (p.length = cnt) := (by simpa using hpl : p.length = cnt)
            have hnpc : np = cnt := by rw [← HNP.out]; exact HPL.out
            have hnp6 : np ≤ 65536 := by omega
            have hO0 : Hid (OwnC w6 w6.heap.size (.slice none 0 0) ((p.take 0).map fun q => Ck.tc (D.getD q []))) := ownW_none _ _
            have hA0 : Hid (∀ q ∈ p.take 0, q < nD) := (by simp : ∀ q ∈ p.take 0, q < nD)
            clear hp hpl HP4 hnpc
            go_wp2_with fail
            go_loopw [14, 25] (fun vv iv wr => ∃ i : Nat, i ≤ np ∧ iv = .int .i64 (i : Int) ∧ Hid (∀ q ∈ p.take i, q < nD) ∧ Hid (OwnC wr w6.heap.size vv ((p.take i).map fun q => Ck.tc (D.getD q []))) ∧ Hid (Ex w6 wr)) (fun _ iv wr => np - (intOf iv).toNat)
            case atStart => exact ⟨0, by omega, rfl, hA0, hO0, Ex.refl _⟩
            case round =>
              clear hO0 hA0
              obtain ⟨i, hi, rfl, HA, HO, HX⟩ := hrel
              have hsz : w6.heap.size ≤ wr.heap.size := HX.out.size
              by_cases hlt : i < np
              · have ti : (i : Int) < (np : Int) := by omega
                have hlt2 : i < p.length := by rw [HNP.out]; exact hlt
                obtain ⟨bq, off, hax, hc⟩ := (HP6.out.below HX.out).at hlt2
                have hsn := take_snoc hlt2
                have hmem := List.getElem_mem hlt2
                obtain ⟨x, hx⟩ : ∃ x, p[i] = x := ⟨_, rfl⟩
                rw [hx] at hc hsn hmem
                have hc' : wr.cell? ⟨bq, off + i, none⟩ = some (.int .u64 (x : Int)) := hc
                subst hax
                by_cases hxn : x < nD
                · have hge : ¬ (nD : Int) ≤ (x : Int) := by omega
                  have hgen : ¬ nD ≤ x := by omega
                  have hxi : (x : Int) < (nD : Int) := by omega
                  have hxD : x < D.length := by rw [HND.out]; exact hxn
                  obtain ⟨bd, od, hdx, hcd⟩ := (HD6.out.below HX.out).at hxD
                  obtain ⟨s, hs⟩ : ∃ s, D[x] = s := ⟨_, rfl⟩
                  have hs40 : s.length ≤ 40 := by rw [← hs]; exact HS40.out _ (List.getElem_mem hxD)
                  rw [hs] at hcd
                  have hcd' : wr.cell? ⟨bd, od + x, none⟩ = some (.string (str s)) := hcd
                  have hgd : D.getD x [] = s := by rw [← hs]; simp [List.getD_eq_getElem?_getD, hxD]
                  have HMp : Hid ((p.take (i + 1)).map (fun q => Ck.tc (D.getD q [])) = (p.take i).map (fun q => Ck.tc (D.getD q [])) ++ [Ck.tc s]) := (by rw [hsn, List.map_append, List.map_singleton, hgd] : (p.take (i + 1)).map (fun q => Ck.tc (D.getD q [])) = (p.take i).map (fun q => Ck.tc (D.getD q [])) ++ [Ck.tc s])
                  have HA9 : Hid (∀ q ∈ p.take (i + 1), q < nD) := (fun q hq => by
                    rw [hsn] at hq
                    rcases List.mem_append.1 hq with h | h
                    · exact HA.out q h
                    · rw [List.mem_singleton] at h; subst h; exact hxn : ∀ q ∈ p.take (i + 1), q < nD)
                  have hml : ((p.take i).map fun q => Ck.tc (D.getD q [])).length ≤ 65536 := by rw [List.length_map, List.length_take]; omega
                  have hlaid := RdW.laid (t := 28) cc_len wr [Ck.tc s] (by simp)
                  have HLaid : Hid (RdC (wr.alloc (.cells (flat cc [Ck.tc s]).toArray 28)) (some ⟨wr.heap.size, 0, none⟩) 1 [Ck.tc s]) := hlaid
                  subst hdx
                  clear hx hsn hmem hc hxD hs hcd hgd hlaid HA
                  go_wp2_with (at_builtin; refine wpList_append_wide cc_len cc_one rfl (.tmp 176) (.tmp 185) 26 _ 48 rfl Tryz.underlying26 Tryz.info28 (by omega) rfl w6.heap.size _ ((p.take i).map fun q => Ck.tc (D.getD q [])) rfl (OwnW.alloc HO.out _) (some ⟨wr.heap.size, 0, none⟩) 1 1 [Ck.tc s] rfl rfl HLaid.out (by simp [maxLen]; omega) (by simp; omega) (by simp; omega) ?_; intro v9 w9 ho9 hg9 _; have X9 : Ex w6 w9 := step_belowW (Below.alloc HX.out hsz _) (by simp; omega) (OwnW.alloc HO.out _) hg9; clear hg9)
                  have HO9 : Hid (OwnC w9 w6.heap.size v9 ((p.take (i + 1)).map fun q => Ck.tc (D.getD q []))) := (by rw [HMp.out]; exact ho9 : OwnC w9 w6.heap.size v9 ((p.take (i + 1)).map fun q => Ck.tc (D.getD q [])))
                  have HX9 : Hid (Ex w6 w9) := X9
                  clear ho9 X9 HX HO
                  go_wp2_with fail
                  go_roundw
                  case rel => exact ⟨i + 1, by omega, by go_num, HA9, HO9, HX9⟩
                  case measure => simp [intOf]; omega
                · have hge : (nD : Int) ≤ (x : Int) := by omega
                  have hgen : nD ≤ x := by omega
                  have HNo : Hid (Ck.opn b = none) := Ck.opn_none (by
                    rw [HP5.out, if_neg]
                    intro h
                    have := List.all_eq_true.1 h x hmem
                    simp at this
                    exact hxn this)
                  clear hx hsn hmem hc hxn
                  go_wp2_with fail
                  refine bodyPost_ret (v := .tuple #[.int .i64 0, .slice none 0 0, .slice none 0 0, .bool false]) (by simp [results, Tryz.results12, go_sem]) rfl ⟨_, rfl, ropen_none HNo.out _, HX4.out.trans (HX6.out.trans HX.out)⟩
              · have ti : ¬ (i : Int) < (np : Int) := by omega
                have htk : p.take i = p := List.take_of_length_le (by rw [HNP.out]; omega)
                have ha := HA.out
                have ho := HO.out
                rw [htk] at ha ho
                have hp := HP5.out
                rw [if_pos (by rw [List.all_eq_true]; intro q hq; simpa using ha q hq)] at hp
                obtain ⟨a14, c14, h14, hr14⟩ := ho.rd cc_len
                have HAt : Hid (OAt b 2 mk (.int .i64 2) u14 (.slice a20 nD c20) w4 wr) := ⟨a14, c14, _, a20, c20, D, rfl, h14, by rw [HND.out], hr14, HD6.out.below HX.out, hp, by rw [List.length_map, HPL.out, HCnt.out], fun c hc => by
                  obtain ⟨q, hq, rfl⟩ := List.mem_map.1 hc
                  have hqD : q < D.length := by rw [HND.out]; exact ha q hq
                  have e : D.getD q [] = D[q] := by simp [List.getD_eq_getElem?_getD, hqD]
                  rw [e]
                  exact okc_tc (HS40.out _ (List.getElem_mem hqD)), HX6.out.trans HX.out⟩
                clear htk ha ho hp h14 hr14 HA HO
                go_wp2_with fail
                go_meet
                exact HAt
        · have hpt := HPt.out
          unfold Ck.ptail at hpt
          rw [if_neg (by decide), if_neg (by decide), HCnt.out] at hpt
          have HP : Hid (Ck.parse b = if (T.rd b cnt k3 []).2.2 ≠ 0 then none else some (3, mk, [], (T.rd b cnt k3 []).1.map Ck.tc)) := hpt
          have hO0 : Hid (OwnC w4 w4.heap.size (.slice none 0 0) (([] : List (List UInt8)).map Ck.tc)) := ownW_none _ _
          have hI0 : Hid (T.rd b cnt k3 [] = T.rd b (cnt - 0) k3 []) := rfl
          have hK0 : Hid (∀ c ∈ ([] : List (List UInt8)).map Ck.tc, Okc c) := (by simp : ∀ c ∈ ([] : List (List UInt8)).map Ck.tc, Okc c)
          clear hpt HPt
          go_wp2_with fail
          go_loopw [7, 14, 26, 27, 28, 29] (fun kv vv iv _ _ _ wr => ∃ (i k : Nat) (o : List (List UInt8)), i ≤ cnt ∧ iv = .int .i64 (i : Int) ∧ kv = .int .i64 (k : Int) ∧ o.length ≤ i ∧ Hid (o.length = i) ∧ Hid (T.rd b cnt k3 [] = T.rd b (cnt - i) k o) ∧ Hid (OwnC wr w4.heap.size vv (o.map Ck.tc)) ∧ Hid (∀ c ∈ o.map Ck.tc, Okc c) ∧ Hid (Ex w4 wr)) (fun _ _ iv _ _ _ wr => cnt - (intOf iv).toNat)
          case atStart => exact ⟨0, k3, [], by omega, rfl, rfl, by simp, rfl, hI0, hO0, hK0, Ex.refl _⟩
          case round =>
            clear hO0 hI0 hK0
            obtain ⟨i, k, o, hi, rfl, rfl, hol, HOl, HI, HO, HK, HX⟩ := hrel
            have hsz : w4.heap.size ≤ wr.heap.size := HX.out.size
            by_cases hlt : i < cnt
            · have ti : (i : Int) < (cnt : Int) := by omega
              obtain ⟨m, hm⟩ : ∃ m, cnt - i = m + 1 := ⟨cnt - i - 1, by omega⟩
              obtain ⟨⟨s', k', e'⟩, hg⟩ : ∃ x, M.getText b (k : Nat) 40 = x := ⟨_, rfl⟩
              have hs40 : s'.length ≤ 40 := by have := (T.getText_all b (k : Nat) 40).1; rw [hg] at this; simpa using this
              have hst := Ck.trd_step (n := m) (o := o) hg
              have hI := HI.out
              rw [hm, hst] at hI
              have HG : Hid (M.getText b (k : Nat) 40 = (s', k', e')) := hg
              have HI2 : Hid (T.rd b cnt k3 [] = if e' ≠ 0 then ([], 0, e') else T.rd b m k' (o ++ [s'])) := hI
              have hm2 : m = cnt - (i + 1) := by omega
              have HM2 : Hid (m = cnt - (i + 1)) := hm2
              clear hg hst hI hm hm2 HI
              go_wp2_with fail
              go_at_call 52
              refine (rgetText_any a len cap b (k : Nat) 40 wr (HB4.out.below HX.out) HLen.out (by decide) (by decide) s' k' e' HG.out).mono ?_
              rintro e5 wq ⟨rfl, hwq⟩
              have hwq' := hwq.symm; clear hwq; subst hwq'
              by_cases he : e' ≠ 0
              · have t1 : ((e' : Int) != 0) = true := by simp; omega
                have HNo : Hid (Ck.opn b = none) := Ck.opn_none (by rw [HP.out, HI2.out, if_pos he, if_pos (by exact he)])
                clear he
                go_wp2_with fail
                refine bodyPost_ret (v := .tuple #[.int .i64 0, .slice none 0 0, .slice none 0 0, .bool false]) (by simp [results, Tryz.results12, go_sem]) rfl ⟨_, rfl, ropen_none HNo.out _, HX4.out.trans HX.out⟩
              · have he0 : e' = 0 := by omega
                subst he0
                clear he
                have hI := HI2.out
                rw [if_neg (by simp), HM2.out] at hI
                have HI3 : Hid (T.rd b cnt k3 [] = T.rd b (cnt - (i + 1)) k' (o ++ [s'])) := hI
                have hlaid := RdW.laid (t := 28) cc_len wr [Ck.tc s'] (by simp)
                have HLaid : Hid (RdC (wr.alloc (.cells (flat cc [Ck.tc s']).toArray 28)) (some ⟨wr.heap.size, 0, none⟩) 1 [Ck.tc s']) := hlaid
                have HMp : Hid ((o ++ [s']).map Ck.tc = o.map Ck.tc ++ [Ck.tc s']) := (by simp : (o ++ [s']).map Ck.tc = o.map Ck.tc ++ [Ck.tc s'])
                have HKn : Hid (∀ c ∈ (o ++ [s']).map Ck.tc, Okc c) := (fun c hc => by
                  rw [HMp.out] at hc
                  rcases List.mem_append.1 hc with h | h
                  · exact HK.out c h
                  · rw [List.mem_singleton] at h; subst h; exact okc_tc hs40 : ∀ c ∈ (o ++ [s']).map Ck.tc, Okc c)
                have HOn : Hid ((o ++ [s']).length = i + 1) := (by rw [List.length_append, HOl.out]; rfl : (o ++ [s']).length = i + 1)
                have hon : (o ++ [s']).length ≤ i + 1 := by rw [List.length_append]; simp; omega
                have hml : (o.map Ck.tc).length ≤ 65536 := by rw [List.length_map]; omega
                clear hI hlaid HI2 HK HOl
                go_wp2_with (at_builtin; refine wpList_append_wide cc_len cc_one rfl (.tmp 102) (.tmp 105) 26 _ 48 rfl Tryz.underlying26 Tryz.info28 (by omega) rfl w4.heap.size _ (o.map Ck.tc) rfl (OwnW.alloc HO.out _) (some ⟨wr.heap.size, 0, none⟩) 1 1 [Ck.tc s'] rfl rfl HLaid.out (by simp [maxLen]; omega) (by simp; omega) (by simp; omega) ?_; intro v9 w9 ho9 hg9 _; have X9 : Ex w4 w9 := step_belowW (Below.alloc HX.out hsz _) (by simp; omega) (OwnW.alloc HO.out _) hg9; clear hg9)
                have HO9 : Hid (OwnC w9 w4.heap.size v9 ((o ++ [s']).map Ck.tc)) := (by rw [HMp.out]; exact ho9 : OwnC w9 w4.heap.size v9 ((o ++ [s']).map Ck.tc))
                have HX9 : Hid (Ex w4 w9) := X9
                clear ho9 X9 HX HO
                go_wp2_with fail
                go_roundw
                case rel => exact ⟨i + 1, k', o ++ [s'], by omega, by go_num, rfl, hon, HOn, HI3, HO9, HKn, HX9⟩
                case measure => simp [intOf]; omega
            · have ti : ¬ (i : Int) < (cnt : Int) := by omega
              have hic : cnt - i = 0 := by omega
              have hI := HI.out
              rw [hic] at hI
              have hp := HP.out
              rw [hI] at hp
              have hp2 : Ck.parse b = some (3, mk, [], o.map Ck.tc) := by rw [hp]; simp [T.rd]
              obtain ⟨a14, c14, h14, hr14⟩ := HO.out.rd cc_len
              have hoc : (o.map Ck.tc).length = cnt := by rw [List.length_map, HOl.out]; omega
              have HAt : Hid (OAt b 3 mk (.int .i64 2) u14 (.slice none 0 0) w4 wr) := ⟨a14, c14, o.map Ck.tc, none, 0, [], rfl, h14, rfl, hr14, Rd.nil _, hp2, by rw [hoc, HCnt.out], HK.out, HX.out⟩
              clear hI hp hp2 hic h14 hr14 hoc HO HK HI
              go_wp2_with fail
              go_meet
              exact HAt
      case rest =>
        obtain ⟨a14, c14, vs, a15, c15, D, rfl, rfl, rfl, hvs, hD, hpa, hvl, hok, hX⟩ := hcut.out
        clear hcut
        obtain ⟨W2, hW2⟩ : ∃ W, W = wc := ⟨_, rfl⟩
        subst hW2
        obtain ⟨nv, hnv⟩ : ∃ nv, vs.length = nv := ⟨_, rfl⟩
        obtain ⟨nD, hnD⟩ : ∃ nD, D.length = nD := ⟨_, rfl⟩
        have hvc : nv ≤ cnt := by rw [← hnv, hvl, HCnt.out]; exact Nat.le_refl _
        rw [hnv, hnD]
        have HNV : Hid (vs.length = nv) := hnv
        have HND : Hid (D.length = nD) := hnD
        have HVl : Hid (vs.length = Ck.nought mk) := hvl
        have HD : Hid (Rd st W2 a15 c15 D) := hD
        have HPa : Hid (Ck.parse b = some (F, mk, D, vs)) := hpa
        have HOk : Hid (∀ c ∈ vs, Okc c) := hok
        have HX2 : Hid (Ex w W2) := HX4.out.trans hX
        have HMk2 : Hid (Rd n64 W2 a10 c10 mk) := HMk.out.below hX
        have HB2 : Hid (Byt W2 a cap b) := HB4.out.below hX
        have hV0 : Hid (RdC W2 a14 c14 (vs.drop (Ck.nought (mk.take 0)))) := hvs
        have hn0 : Hid (nv = nv - Ck.nought (mk.take 0)) := rfl
        have hO0 : Hid (OwnC W2 W2.heap.size (.slice none 0 0) ((Ck.spr mk vs).take 0)) := ownW_none _ _
        clear hvs hD hpa hvl hok hX hnv hnD HX4 HMk HB HB4
        go_wp2_with fail
        go_loopw [14, 30, 31] (fun vv ov iv wr => ∃ (i : Nat) (a' : Option Addr) (n' c' : Nat), i ≤ nm ∧ iv = .int .i64 (i : Int) ∧ vv = .slice a' n' c' ∧ n' ≤ 65536 ∧ Hid (n' = nv - Ck.nought (mk.take i)) ∧ Hid (RdC W2 a' c' (vs.drop (Ck.nought (mk.take i)))) ∧ Hid (OwnC wr W2.heap.size ov ((Ck.spr mk vs).take i)) ∧ Hid (Ex W2 wr)) (fun vv ov iv wr => nm - (intOf iv).toNat)
        case atStart => exact ⟨0, a14, nv, c14, by omega, rfl, rfl, by omega, hn0, hV0, hO0, Ex.refl _⟩
        case round =>
          clear hn0 hV0 hO0
          obtain ⟨i, a', n', c', hi, rfl, rfl, hn6, HN', HV, HO, HX⟩ := hrel
          have hsz : W2.heap.size ≤ wr.heap.size := HX.out.size
          have hol : ((Ck.spr mk vs).take i).length ≤ 65536 := by rw [List.length_take, Ck.spr_len]; have := HNM.out; omega
          by_cases hlt : i < nm
          · have ti : (i : Int) < (nm : Int) := by omega
            have hlt2 : i < mk.length := by rw [HNM.out]; exact hlt
            obtain ⟨bq, off, hax, hc⟩ := (HMk2.out.below HX.out).at hlt2
            have hnt := Ck.nought_take hlt2
            have hst := Ck.spr_take mk vs i hlt2
            have hx1 := HB1.out _ (List.getElem_mem hlt2)
            obtain ⟨x, hx⟩ : ∃ x, mk[i] = x := ⟨_, rfl⟩
            rw [hx] at hc hnt hst hx1
            have hc' : wr.cell? ⟨bq, off + i, none⟩ = some (.int .u64 (x : Int)) := hc
            subst hax
            by_cases h0 : x = 0
            · subst h0
              rw [if_pos rfl] at hnt hst
              have hmo := Ck.nought_mono mk (i + 1)
              obtain ⟨j, hj⟩ : ∃ j, Ck.nought (mk.take i) = j := ⟨_, rfl⟩
              rw [hj] at hnt hst
              have hjv : j < vs.length := by rw [HVl.out]; omega
              have hHV := HV.out
              rw [hj] at hHV
              have hdl : 0 < (vs.drop j).length := by rw [List.length_drop]; omega
              obtain ⟨b', off', rfl, x0, x1, x2, x3⟩ := RdC.four (hHV.below HX.out) hdl
              have hn1 : n' = vs.length - j := by rw [HN'.out, hj, HNV.out]
              obtain ⟨d, hd⟩ : ∃ d, (vs.drop j)[0] = d := ⟨_, rfl⟩
              have hhd : (vs.drop j).headD Rw.none_ = d := by rw [headD0 hdl, hd]
              rw [hhd] at hst
              rw [hd] at x0 x1 x2 x3
              simp only [Nat.zero_mul, Nat.add_zero] at x0 x1 x2 x3
              have HSt : Hid ((Ck.spr mk vs).take (i + 1) = (Ck.spr mk vs).take i ++ [d]) := hst
              obtain ⟨a'', hrun, hrd⟩ := cut26 b' off' n' c' (by omega) (by have := hHV.1; rw [List.length_drop] at this; omega) hHV.2.1
              have hcn : n' ≤ c' := by have := hHV.1; rw [List.length_drop] at this; omega
              have hcm := hHV.2.1
              unfold maxLen at hcm
              have HV2 : Hid (RdC W2 a'' (c' - 1) (vs.drop (Ck.nought (mk.take (i + 1))))) := (by rw [hnt, ← List.drop_drop]; exact hrd W2 _ (by rw [List.length_drop, hn1]) hHV : RdC W2 a'' (c' - 1) (vs.drop (Ck.nought (mk.take (i + 1)))))
              have HN2 : Hid (n' - 1 = nv - Ck.nought (mk.take (i + 1))) := (by rw [hnt, hn1, HNV.out]; omega : n' - 1 = nv - Ck.nought (mk.take (i + 1)))
              have hnn1 : n' - 1 ≤ 65536 := by omega
              have hn1' : (1 : Int) ≤ (n' : Int) := by omega
              have h0n : (0 : Int) < (n' : Int) := by omega
              have hlaid := RdW.laid (t := 28) cc_len wr [d] (by simp)
              have HLaid : Hid (RdC (wr.alloc (.cells (flat cc [d]).toArray 28)) (some ⟨wr.heap.size, 0, none⟩) 1 [d]) := hlaid
              clear hx hst hnt hmo hj hjv hHV hdl hn1 hd hhd hrd hc hx1 hlaid HV HN'
              go_wp2_with (at_builtin; refine wpList_append_wide cc_len cc_one rfl (.tmp 202) (.tmp 206) 26 _ 48 rfl Tryz.underlying26 Tryz.info28 (by omega) rfl W2.heap.size _ ((Ck.spr mk vs).take i) rfl (OwnW.alloc HO.out _) (some ⟨wr.heap.size, 0, none⟩) 1 1 [d] rfl rfl HLaid.out (by simp [maxLen]; omega) (by simp; omega) (by simp; omega) ?_; intro v9 w9 ho9 hg9 _; have X9 : Ex W2 w9 := step_belowW (Below.alloc HX.out hsz _) (by simp; omega) (OwnW.alloc HO.out _) hg9; clear hg9)
              have HO9 : Hid (OwnC w9 W2.heap.size v9 ((Ck.spr mk vs).take (i + 1))) := (by rw [HSt.out]; exact ho9 : OwnC w9 W2.heap.size v9 ((Ck.spr mk vs).take (i + 1)))
              have HX9 : Hid (Ex W2 w9) := X9
              clear ho9 X9 HO HX
              go_wp2_with fail
              go_roundw
              case rel => exact ⟨i + 1, a'', n' - 1, c' - 1, by omega, by go_num, by go_num, hnn1, HN2, HV2, HO9, HX9⟩
              case measure => simp [intOf]; omega
            · have hx1' : x = 1 := by omega
              subst hx1'
              rw [if_neg (by decide)] at hnt hst
              have HSt : Hid ((Ck.spr mk vs).take (i + 1) = (Ck.spr mk vs).take i ++ [Rw.none_]) := hst
              have HN2 : Hid (n' = nv - Ck.nought (mk.take (i + 1))) := (by rw [hnt]; exact HN'.out : n' = nv - Ck.nought (mk.take (i + 1)))
              have HV2 : Hid (RdC W2 a' c' (vs.drop (Ck.nought (mk.take (i + 1))))) := (by rw [hnt]; exact HV.out : RdC W2 a' c' (vs.drop (Ck.nought (mk.take (i + 1)))))
              have hlaid := RdW.laid (t := 28) cc_len wr [Rw.none_] (by simp)
              have HLaid : Hid (RdC (wr.alloc (.cells (flat cc [Rw.none_]).toArray 28)) (some ⟨wr.heap.size, 0, none⟩) 1 [Rw.none_]) := hlaid
              clear hx hst hnt hc hx1 hlaid HV HN'
              go_wp2_with (at_builtin; refine wpList_append_wide cc_len cc_one rfl (.tmp 198) (.tmp 200) 26 _ 48 rfl Tryz.underlying26 Tryz.info28 (by omega) rfl W2.heap.size _ ((Ck.spr mk vs).take i) rfl (OwnW.alloc HO.out _) (some ⟨wr.heap.size, 0, none⟩) 1 1 [Rw.none_] rfl rfl HLaid.out (by simp [maxLen]; omega) (by simp; omega) (by simp; omega) ?_; intro v9 w9 ho9 hg9 _; have X9 : Ex W2 w9 := step_belowW (Below.alloc HX.out hsz _) (by simp; omega) (OwnW.alloc HO.out _) hg9; clear hg9)
              have HO9 : Hid (OwnC w9 W2.heap.size v9 ((Ck.spr mk vs).take (i + 1))) := (by rw [HSt.out]; exact ho9 : OwnC w9 W2.heap.size v9 ((Ck.spr mk vs).take (i + 1)))
              have HX9 : Hid (Ex W2 w9) := X9
              clear ho9 X9 HO HX
              go_wp2_with fail
              go_roundw
              case rel => exact ⟨i + 1, a', n', c', by omega, by go_num, rfl, hn6, HN2, HV2, HO9, HX9⟩
              case measure => simp [intOf]; omega
          · have ti : ¬ (i : Int) < (nm : Int) := by omega
            have ho := HO.out
            rw [List.take_of_length_le (by rw [Ck.spr_len, HNM.out]; omega)] at ho
            obtain ⟨a30, c30, h30, hr30⟩ := ho.rd cc_len
            have hl30 : (Ck.spr mk vs).length = nm := by rw [Ck.spr_len, HNM.out]
            rw [hl30] at h30
            subst h30
            have HL30 : Hid ((Ck.spr mk vs).length = nm) := hl30
            have HR30 : Hid (RdC wr a30 c30 (Ck.spr mk vs)) := hr30
            have HXr : Hid (Ex w wr) := HX2.out.trans HX.out
            have HBr : Hid (Byt wr a cap b) := HB2.out.below HX.out
            have HDr : Hid (Rd st wr a15 c15 D) := HD.out.below HX.out
            have HOks : Hid (∀ c ∈ Ck.spr mk vs, Okc c) := okc_spr HOk.out
            obtain ⟨⟨r, e0⟩, hE⟩ : ∃ z, Ck.encE (Ck.kindOf F) (Ck.spr mk vs) = z := ⟨_, rfl⟩
            have HE : Hid (Ck.encE (Ck.kindOf F) (Ck.spr mk vs) = (r, e0)) := hE
            have hop := Ck.opn_some HPa.out
            rw [hE] at hop
            have HOp : Hid (Ck.opn b = if (r, e0) = (b, 0) then some (Ck.kindOf F, Ck.spr mk vs, D) else none) := hop
            clear ho hl30 hr30 hE hop hol HO HV HN' HX HX2 HB2 HD HMk2
            go_wp2_with fail
            go_at_call 10
            refine (rencode15_is (Ck.kindOf F) a30 nm c30 (Ck.spr mk vs) wr HL30.out.symm HR30.out (fun c hc => (HOks.out c hc).1) (fun c hc => (HOks.out c hc).2) r e0 HE.out).mono ?_
            rintro e5 w5 ⟨v5, rfl, ho5, hx5⟩
            obtain ⟨a5, c5, rfl, hb5⟩ := ho5.byt
            obtain ⟨nr, hnr⟩ : ∃ nr, r.length = nr := ⟨_, rfl⟩
            rw [hnr]
            have HNR : Hid (r.length = nr) := hnr
            have HX5 : Hid (Ex w w5) := HXr.out.trans hx5
            have HR5 : Hid (RdC w5 a30 c30 (Ck.spr mk vs)) := HR30.out.below hx5
            have HD5 : Hid (Rd st w5 a15 c15 D) := HDr.out.below hx5
            have hs1 : (convert 22 9 (.slice a5 nr c5)).run Tryz.prog w5 = .ok (.string (str r)) w5 := run_str hb5 hnr.symm
            have hs2 : (convert 22 9 (.slice a len cap)).run Tryz.prog w5 = .ok (.string (str b)) w5 := run_str (HBr.out.below hx5) HLen.out
            obtain ⟨z, hz⟩ : ∃ z : Bool, z = true ↔ r = b := ⟨decide (r = b), by simp⟩
            have hZs : ((str r).toList == (str b).toList) = z := by rw [str_toList, str_toList, Bool.eq_iff_iff, hz]; simp
            have HZ : Hid (z = true ↔ r = b) := hz
            clear ho5 hb5 hnr hx5 hz HXr HBr HDr HR30
            by_cases he : e0 ≠ 0
            · have t1 : ((e0 : Int) != 0) = true := by simp; omega
              have HNo : Hid (Ck.opn b = none) := (by rw [HOp.out, if_neg (by simp; omega)] : Ck.opn b = none)
              clear he
              go_wp2_with fail
              refine bodyPost_ret (v := .tuple #[.int .i64 0, .slice none 0 0, .slice none 0 0, .bool false]) (by simp [results, Tryz.results12, go_sem]) rfl ⟨_, rfl, ropen_none HNo.out _, HX5.out⟩
            · have he0 : e0 = 0 := by omega
              subst he0
              clear he
              cases z with
              | false =>
                have HNo : Hid (Ck.opn b = none) := (by rw [HOp.out, if_neg (by simp; intro h; have := HZ.out.2 h; cases this)] : Ck.opn b = none)
                go_wp2_with fail
                refine bodyPost_ret (v := .tuple #[.int .i64 0, .slice none 0 0, .slice none 0 0, .bool false]) (by simp [results, Tryz.results12, go_sem]) rfl ⟨_, rfl, ropen_none HNo.out _, HX5.out⟩
              | true =>
                have HYes : Hid (Ck.opn b = some (Ck.kindOf F, Ck.spr mk vs, D)) := (by rw [HOp.out, if_pos (by rw [HZ.out.1 rfl])] : Ck.opn b = some (Ck.kindOf F, Ck.spr mk vs, D))
                have HFin : Hid (ROpen b (.tuple #[.int .i64 (Ck.kindOf F), .slice a30 nm c30, .slice a15 nD c15, .bool true]) w5) := ropen_yes HYes.out HL30.out.symm HND.out.symm HR5.out HD5.out
                go_wp2_with fail
                refine bodyPost_ret (v := .tuple #[.int .i64 (Ck.kindOf F), .slice a30 nm c30, .slice a15 nD c15, .bool true]) (by simp [results, Tryz.results12, go_sem]) rfl ⟨_, rfl, HFin.out, HX5.out⟩
end Go.Proofs.YtnmonoafjijfhaaGreat
namespace Go.Proofs.YtnmonoafjijfhaaGreat
open Go.RowKit
set_option linter.unusedVariables false
set_option linter.unusedSimpArgs false
theorem opened {b : List UInt8} {K : Int} {L : List Ce} {D : List (List UInt8)} (h : Ck.opn b = some (K, L, D)) : (Ck.encE (LK b) (LC b) = (b, 0) ∧ (Ck.lread b).s.y = 0) ∧ LK b = K ∧ LC b = L ∧ LD b = D := by
  obtain ⟨h1, h2⟩ := opn_is b
  by_cases hy : (Ck.lread b).s.y = 0
  · obtain ⟨d, h3, h4, h5⟩ := h2 hy
    rw [h] at h5
    by_cases hc : Ck.encE (LK b) (LC b) = (b, 0)
    · rw [if_pos hc] at h5
      simp only [Option.some.injEq, Prod.mk.injEq] at h5
      refine ⟨⟨hc, hy⟩, h5.1.symm, h5.2.1.symm, ?_⟩
      unfold LD
      by_cases hf : (Ck.lread b).f = 2
      · rw [if_pos hf, LW, h3 hf, Ck.t2_words, h5.2.2]
      · rw [if_neg hf, h5.2.2, h4 hf]
    · rw [if_neg hc] at h5
      cases h5
  · rw [h1 hy] at h
    cases h
theorem shut {b : List UInt8} (h : Ck.opn b = none) : ¬ (Ck.encE (LK b) (LC b) = (b, 0) ∧ (Ck.lread b).s.y = 0) := by
  rintro ⟨hc, hy⟩
  obtain ⟨d, _, _, h5⟩ := (opn_is b).2 hy
  rw [h, if_pos hc] at h5
  cases h5
theorem chunk_text {w : World} {g : Nat} {b : List UInt8} {fp : Nat → Prop} {k : Nat} {s : ByteArray} (h : Chk w g b fp) : w.cell? ⟨g, k, none⟩ ≠ some (.string s) := by
  have key : ∀ (K R : Int) (dn : Nat) (bs : SV) (f : Nat) (x y : SV), ChAt w g K R dn bs f x y → w.cell? ⟨g, k, none⟩ ≠ some (.string s) := by
    intro K R dn bs f x y hC e
    rw [hC.cell k] at e
    match k, e with
    | 0, e => simp at e
    | 1, e => simp at e
    | 2, e => simp at e
    | 3, e => simp at e
    | 4, e => simp at e
    | 5, e => simp [sv] at e
    | 6, e => simp at e
    | 7, e => simp [sv] at e
    | 8, e => simp [sv] at e
    | k + 9, e => simp at e
  rcases h with ⟨bs, hC, _⟩ | ⟨x, y, hC, _⟩
  · exact key _ _ _ _ _ _ _ hC
  · exact key _ _ _ _ _ _ _ hC
theorem cells_off {w : World} {g : Nat} {b : List UInt8} {fp : Nat → Prop} {a : Option Addr} {c : Nat} {l : List Ce} (h : Chk w g b fp) (hr : RdC w a c l) : 0 < l.length → ∀ q off, a = some ⟨q, off, none⟩ → q ≠ g := by
  intro h0 q off he e
  obtain ⟨q', off', he', hc, _⟩ := RdC.four hr h0
  rw [he] at he'
  simp only [Option.some.injEq, Addr.mk.injEq, and_true] at he'
  obtain ⟨rfl, rfl⟩ := he'
  subst e
  exact chunk_text h hc
theorem texts_off {w : World} {g : Nat} {b : List UInt8} {fp : Nat → Prop} {a : Option Addr} {c : Nat} {l : List (List UInt8)} (h : Chk w g b fp) (hr : Rd st w a c l) : 0 < l.length → ∀ q off, a = some ⟨q, off, none⟩ → q ≠ g := by
  intro h0 q off he e
  obtain ⟨q', off', he', hc⟩ := hr.at h0
  rw [he] at he'
  simp only [Option.some.injEq, Addr.mk.injEq, and_true] at he'
  obtain ⟨rfl, rfl⟩ := he'
  subst e
  exact chunk_text h hc
/-- tells of what Open and the document's own Open answer. -/
theorem tells_all {g : Nat} {b : List UInt8} {fp : Nat → Prop} {K : Int} {al : Option Addr} {nl cl : Nat} {L : List Ce} {ad : Option Addr} {nd cd : Nat} {D : List (List UInt8)} {w w0 : World}
    (ho : Ck.opn b = some (K, L, D)) (h : Chk w g b fp) (hok : Ok b) (hn : nl = L.length) (hB : RdC w al cl L) (hnd : nd = D.length) (hD : Rd st w ad cd D) (hx : Ex w0 w) (hg : w0.heap.size ≤ g) :
    Calls Tryz.prog 13 #[.pointer (some ⟨g, 0, none⟩), .int .i64 K, .slice al nl cl, .slice ad nd cd] w fun e w' => e = .returned (.bool true) ∧ Ex w0 w' := by
  obtain ⟨_, h1, h2, h3⟩ := opened ho
  refine (tells_is g b fp K al nl cl L ad nd cd D w h hok h1 hn h2 hB (cells_off h hB) hnd h3 hD (texts_off h hD)).mono ?_
  rintro e w' ⟨he, fp', _, _, hgr⟩
  exact ⟨he, Below.grown hx hgr hx.size (fun k hk => by simp only [Option.some.injEq] at hk; omega)⟩
theorem few_len (l : List Ce) : ((l.take 60).map fewC).length ≤ 60 := by rw [List.length_map, List.length_take]; omega
end Go.Proofs.YtnmonoafjijfhaaGreat
namespace Go.Proofs.YtnmonoafjijfhaaGreat
open Go.RowKit
set_option linter.unusedVariables false
set_option linter.unusedSimpArgs false
structure Duo (w0 : World) (base : Nat) (W : World) (a b : Value) (L M : List Ce) : Prop where
  l : OwnC W base a L
  m : OwnC W base b M
  ab : Aside a b
  bel : Below base w0 W
  sz : base ≤ W.heap.size
section
variable {w0 : World} {base : Nat} {W W' : World} {a b a' : Value} {L M : List Ce} {o : Obj}
theorem Duo.none_ (w : World) (base : Nat) (h : base ≤ w.heap.size) : Duo w base w (.slice none 0 0) (.slice none 0 0) [] [] :=
  ⟨ownW_none _ _, ownW_none _ _, Aside.nil _, (Below.refl _ _).mono h, h⟩
theorem Duo.push1 (h : Duo w0 base W a b L M) {X : List Ce} (hO : OwnC W' base a' X) (hg : (W.alloc o).grownBy W' a.ownBlock) (hat : a'.ownBlock = a.ownBlock ∨ a'.ownBlock = some (W.alloc o).heap.size) : Duo w0 base W' a' b X M := by
  have hs := hg.size
  refine ⟨hO, ownsRow_far (OwnW.alloc h.m o) hg h.ab, Aside.grown h.ab hat (OwnW.alloc h.m o), Below.grown (Below.alloc h.bel h.sz o) hg (by have := h.sz; simp; omega) (fun k hk => (World.ownsRow.lt h.l k hk).1), ?_⟩
  have := h.sz
  simp at hs
  omega
theorem Duo.push2 (h : Duo w0 base W a b L M) {X : List Ce} (hO : OwnC W' base a' X) (hg : (W.alloc o).grownBy W' b.ownBlock) (hat : a'.ownBlock = b.ownBlock ∨ a'.ownBlock = some (W.alloc o).heap.size) : Duo w0 base W' a a' L X := by
  have hs := hg.size
  refine ⟨ownsRow_far (OwnW.alloc h.l o) hg h.ab.symm, hO, (Aside.grown h.ab.symm hat (OwnW.alloc h.l o)).symm, Below.grown (Below.alloc h.bel h.sz o) hg (by have := h.sz; simp; omega) (fun k hk => (World.ownsRow.lt h.m k hk).1), ?_⟩
  have := h.sz
  simp at hs
  omega
end
/-- Cells that a column of the kind may have. -/
def Fit (kind : Int) (c : Ce) : Prop := Ck.fits kind c = true ∧ Okc c
theorem fit_txt {s : List UInt8} (h : s.length ≤ 40) : Fit 2 ⟨[], 2, 0, s⟩ := ⟨(Ck.fits_iff _ _).2 ⟨.inr rfl, fun _ => h⟩, in0, by simp only [maxLen]; omega⟩
theorem fit_int {k n : Int} (hk : k = 0 ∨ k = 1) (hn : In64 n) : Fit 1 ⟨[], k, n, []⟩ := ⟨(Ck.fits_iff _ _).2 ⟨by rcases hk with h | h <;> simp [h], fun h => by simp⟩, hn, by simp [maxLen]⟩
theorem fit_all {kind : Int} {X : List Ce} (h : ∀ c ∈ X, Fit kind c) : X.all (Ck.fits kind) = true ∧ ∀ c ∈ X, Okc c := ⟨List.all_eq_true.2 fun c hc => (h c hc).1, fun c hc => (h c hc).2⟩
theorem fit_snoc {kind : Int} {X : List Ce} {c : Ce} (h : ∀ c ∈ X, Fit kind c) (hc : Fit kind c) : ∀ d ∈ X ++ [c], Fit kind d := by
  intro d hd
  rcases List.mem_append.1 hd with h1 | h1
  · exact h d h1
  · rw [List.mem_singleton] at h1; subst h1; exact hc
theorem enc_no : Ck.encE 0 [] = ([], 22) := by decide
theorem enc_many : Ck.encE 1 (List.replicate 65537 Rw.none_) = ([], 4) := by
  unfold Ck.encE
  rw [if_neg (by decide), if_pos (by rw [List.length_replicate]; decide)]
theorem enc_kind : Ck.encE 1 [⟨[], 2, 0, []⟩] = ([], 1) := by
  unfold Ck.encE
  rw [if_neg (by decide), if_neg (by simp), if_neg (by simp [Ck.fits])]
theorem enc_long : Ck.encE 2 [⟨[], 2, 0, List.replicate 41 0⟩] = ([], 1) := by
  unfold Ck.encE
  rw [if_neg (by decide), if_neg (by simp), if_neg (by simp [Ck.fits])]
end Go.Proofs.YtnmonoafjijfhaaGreat
