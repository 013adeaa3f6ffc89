/-
  The contracts of the statements' own Within, Same, Intact and Roomy. 'b[j:k]' of bytes, in a region whose order is open and outside.
-/
import Derived.Test.YtnmonoafjijfhaaGreatM04
namespace Go.Proofs.YtnmonoafjijfhaaGreat
open Go.RowKit
set_option linter.unusedVariables false
set_option maxRecDepth 100000 in
theorem within_any (n hi : Int) (w : World) (l1 : -9223372036854775808 ≤ n) (u1 : n ≤ 9223372036854775807) (h0 : 0 ≤ hi) (h1 : hi ≤ 1000000000) :
    Calls Tryz.prog 17 #[.int .i64 n, .int .i64 0, .int .i64 hi] w fun e w' => ∃ r : Nat, (r : Int) ≤ hi ∧ e = .returned (.int .i64 r) ∧ w' = w := by
  have hd : (hi + 1 == 0) = false := by simp; omega
  have hu := Int.tmod_lt_of_pos n (show 0 < hi + 1 by omega)
  have hl := Int.lt_tmod_of_pos n (show 0 < hi + 1 by omega)
  go_enter Tryz.func17, Tryz.ntmps17
  go_wp2
  · go_ret
    exact ⟨(n.tmod (hi + 1) + hi + 1).toNat, by omega, I.ret_int (by omega), rfl⟩
  · go_ret
    exact ⟨(n.tmod (hi + 1)).toNat, by omega, I.ret_int (by omega), rfl⟩
set_option maxRecDepth 100000 in
theorem same_yes (a b : Option Addr) (ca cb n : Nat) (l : List UInt8) (w : World) (hn : n = l.length) (hA : Byt w a ca l) (hB : Byt w b cb l) :
    Calls Tryz.prog 55 #[.slice a n ca, .slice b l.length cb] w fun e w' => e = .returned (.bool true) ∧ Ex w w' := by
  subst hn
  obtain ⟨h1, h2, h3, h4⟩ := hA
  obtain ⟨g1, g2, g3, g4⟩ := hB
  unfold maxLen at h2 g2
  have hne : ((l.length : Int) != (l.length : Int)) = false := by simp
  go_enter Tryz.func55, Tryz.ntmps55
  go_wp2
  go_loopw [5] (fun i wr => ∃ k : Nat, k ≤ l.length ∧ i = .int .i64 k ∧ ∃ q, wr = w.drewN q) (fun i _ => l.length - (intOf i).toNat)
  case atStart => exact ⟨0, by omega, rfl, 0, rfl⟩
  case round =>
    obtain ⟨k, hk, rfl, q, rfl⟩ := hrel
    by_cases hlt : k < l.length
    · obtain ⟨b1, o1, rfl, hc1⟩ := h4 k hlt
      obtain ⟨b2, o2, rfl, hc2⟩ := g4 k hlt
      have hi1 : (k : Int) < (l.length : Int) := by omega
      go_wp2
      go_quiet (fail)
      go_wp2
      go_roundw
      case rel => exact ⟨k + 1, by omega, by go_num, q + nq, rfl⟩
      case measure => simp [intOf]; omega
    · go_wp2
      go_ret
      exact ⟨rfl, Ex.drewN w q⟩
/-- A list with eighty marks behind it. -/
def room (l : List UInt8) : List UInt8 := l ++ List.replicate 80 165
theorem room_len (l : List UInt8) : (room l).length = l.length + 80 := by simp [room]
theorem room_at {l : List UInt8} {k : Nat} (h1 : l.length ≤ k) (h2 : k < l.length + 80) : M.bAt (room l) k = 165 := by
  unfold M.bAt room
  simp only [List.getD_eq_getElem?_getD]
  rw [List.getElem?_append_right h1, List.getElem?_replicate, if_pos (by omega)]
  rfl
theorem room_take (l : List UInt8) : (room l).take l.length = l := by simp [room]
set_option maxRecDepth 100000 in
theorem intact_yes (a b : Option Addr) (ca cb n : Nat) (l : List UInt8) (w : World) (hn : n = (room l).length) (hA : Byt w a ca (room l)) (hB : Byt w b cb l) (hlen : l.length ≤ 140737488351232) :
    Calls Tryz.prog 19 #[.slice a n ca, .slice b l.length cb, .int .u8 165] w fun e w' => e = .returned (.bool true) ∧ Ex w w' := by
  subst hn
  have hs : Byt w a ca l := by
    have := hA.take (k := l.length) (by rw [room_len]; omega)
    rw [room_take] at this
    exact this
  have HS : Hid (Byt w a ca l) := hs
  have HB : Hid (Byt w b cb l) := hB
  obtain ⟨h1, h2, h3, h4⟩ := hA
  rw [room_len] at h1 h4 ⊢
  have hle : (l.length : Int) ≤ (ca : Int) := by omega
  have hca : ca ≤ 9223372036854775807 := by unfold maxLen at h2; omega
  have hne : ((l.length : Int) + 80 != (l.length : Int) + 80) = false := by simp
  have hx : ∀ k, l.length ≤ k → k < l.length + 80 → ∃ b' off, a = some ⟨b', off, none⟩ ∧ w.cell? ⟨b', off + k, none⟩ = some (.int .u8 165) := by
    intro k k1 k2
    obtain ⟨b', off, ha, hc⟩ := h4 k k2
    refine ⟨b', off, ha, ?_⟩
    rw [hc, room_at k1 k2]
    rfl
  have HX : Hid (∀ k, l.length ≤ k → k < l.length + 80 → ∃ b' off, a = some ⟨b', off, none⟩ ∧ w.cell? ⟨b', off + k, none⟩ = some (.int .u8 165)) := hx
  clear hs hB h1 h2 h3 h4 hx
  go_enter Tryz.func19, Tryz.ntmps19
  go_wp2_with fail
  refine (same_yes a b ca cb _ l _ rfl HS.out HB.out).mono ?_
  rintro e w1 ⟨rfl, hx1⟩
  go_wp2_with fail
  go_loop [7] (fun i => ∃ k : Nat, l.length ≤ k ∧ k ≤ l.length + 80 ∧ i = .int .i64 k) (fun i => l.length + 80 - (intOf i).toNat)
  case atStart => exact ⟨l.length, by omega, by omega, rfl⟩
  case round =>
    obtain ⟨k, hk1, hk2, rfl⟩ := hrel
    by_cases hlt : k < l.length + 80
    · obtain ⟨b', off, rfl, hc⟩ := HX.out k hk1 hlt
      have hc' : w1.cell? ⟨b', off + k, none⟩ = some (.int .u8 165) := by
        rw [hx1.cell (p := ⟨b', off + k, none⟩) (World.block_lt_of_cell? w _ hc)]; exact hc
      go_wp2
      go_round
      case rel => exact ⟨k + 1, by omega, by omega, by go_num⟩
      case measure => simp [intOf]; omega
    · go_wp2
      go_ret
      exact ⟨rfl, hx1⟩
/-- What Roomy has filled when it stands at k. -/
def fillK (l : List UInt8) (k : Nat) : List UInt8 := l ++ (List.replicate (k - l.length) 165 ++ List.replicate (l.length + 80 - k) 0)
theorem fillK_len (l : List UInt8) (k : Nat) (h1 : l.length ≤ k) (h2 : k ≤ l.length + 80) : (fillK l k).length = l.length + 80 := by simp [fillK]; omega
theorem fillK_start (l : List UInt8) : fillK l l.length = l ++ List.replicate 80 0 := by simp [fillK]
theorem fillK_end (l : List UInt8) : fillK l (l.length + 80) = room l := by simp [fillK, room]
theorem fillK_step (l : List UInt8) (k : Nat) (h1 : l.length ≤ k) (h2 : k < l.length + 80) : (cs (fillK l k)).set k (.int .u8 165) = cs (fillK l (k + 1)) := by
  have e : (fillK l k).set k 165 = fillK l (k + 1) := by
    unfold fillK
    obtain ⟨d, rfl⟩ : ∃ d, k = l.length + d := ⟨k - l.length, by omega⟩
    obtain ⟨r, hr⟩ : ∃ r, 80 - d = r + 1 := ⟨80 - d - 1, by omega⟩
    rw [show l.length + d - l.length = d from by omega, show l.length + 80 - (l.length + d) = r + 1 from by omega, show l.length + d + 1 - l.length = d + 1 from by omega, show l.length + 80 - (l.length + d + 1) = r from by omega]
    rw [List.set_append_right _ _ (by omega), show l.length + d - l.length = d from by omega, List.set_append_right _ _ (by simp)]
    have e1 : List.replicate (d + 1) (165 : UInt8) = List.replicate d 165 ++ [165] := List.replicate_succ'
    rw [e1, List.replicate_succ (n := r)]
    simp
  rw [← e]
  simp [cs, List.map_set]
set_option maxRecDepth 100000 in
theorem roomy_any (a : Option Addr) (cap : Nat) (l : List UInt8) (w : World) (hB : Byt w a cap l) (hlen : l.length ≤ 140737488351232) :
    Calls Tryz.prog 18 #[.slice a l.length cap, .int .u8 165] w fun e w' => ∃ a' cap', e = .returned (.slice a' (room l).length cap') ∧ Byt w' a' cap' (room l) ∧ Ex w w' := by
  obtain ⟨hlc, hcm, hnone, hcell⟩ := hB
  obtain ⟨C, hC⟩ : ∃ C, C = cs l := ⟨_, rfl⟩
  have hCl : C.length = l.length := by rw [hC, cs_len]
  have HC : Hid (C = cs l) := hC
  have hone : ∀ v ∈ C, v.oneCell' = true := by rw [hC]; exact cs_one l
  obtain ⟨Z, hZ⟩ : ∃ Z, Z = cs (List.replicate (l.length + 80) 0) := ⟨_, rfl⟩
  have HZ : Hid (Z = cs (List.replicate (l.length + 80) 0)) := hZ
  have hZl : Z.length = l.length + 80 := by rw [hZ, cs_len]; simp
  clear hC hZ
  go_enter Tryz.func18, Tryz.ntmps18
  go_wp2_with (first
    | (at_make; refine wpList_make_zero rfl _ _ rfl _ _ (l.length + 80) rfl rfl (by omega) (by omega) (by omega) ?_; intro w1 hg1 hb1; rw [← HZ.out] at hg1)
    | (have _t := hg1; refine wpList_copy_splice rfl (.tmp 11) (.tmp 12) 22 22 rfl 5 Tryz.underlying22 Tryz.size5 _ _ _ _ _ _ rfl rfl w.heap.size 0 Z 5 hg1 C ?c1 ?c2 ?c3 hone w.heap.size w hb1 (Nat.le_refl _) ?_; rotate_right; intro w2 hg2 hb2; clear hg1))
  case c1 => rw [hCl]; show _ = min _ _; omega
  case c2 =>
    intro h0
    obtain ⟨b, off, rfl, _⟩ := hcell 0 (by omega)
    refine ⟨_, rfl, fun j u hu => ?_⟩
    rw [HC.out] at hu
    obtain ⟨hj, rfl⟩ := cs_get hu
    obtain ⟨b', off', hbo, hc⟩ := hcell j hj
    simp at hbo
    obtain ⟨rfl, rfl⟩ := hbo
    rw [add_none, hb1.cell (p := ⟨b, off + j, none⟩) (World.block_lt_of_cell? w _ hc)]
    exact hc
  case c3 => omega
  have ho2 : Own w2 w.heap.size (.slice (some ⟨w.heap.size, 0, none⟩) (l.length + 80) (l.length + 80)) (fillK l l.length) := by
    have hg := hg2.out
    have e : splice Z 0 C = cs (fillK l l.length) := by
      rw [HC.out, HZ.out, fillK_start, cs_append]
      simp only [splice, List.take_zero, List.nil_append, Nat.zero_add, cs_len]
      congr 1
      rw [cs_zero, cs_zero]
      simp
    rw [e] at hg
    have hlen2 := fillK_len l l.length (by omega) (by omega)
    show World.ownsRow _ _ _ _ _ _ _
    rw [hlen2]
    refine ⟨by rw [cs_len, hlen2]; omega, .inr ⟨w.heap.size, l.length + 80, _, rfl, Nat.le_refl _, hg, by omega, by unfold maxLen; omega, by simp [cs_len, hlen2], ?_⟩⟩
    simp only [Nat.mul_one]
    rw [List.take_of_length_le (by rw [cs_len, hlen2]; omega)]
  clear hg2 hone hCl hZl hcell hnone hb1
  have hlen3 : l.length ≤ 140737488351232 := hlen
  obtain ⟨V, hV⟩ : ∃ V, V = Value.slice (some ⟨w.heap.size, 0, none⟩) (l.length + 80) (l.length + 80) := ⟨_, rfl⟩
  have HV : Hid (V = Value.slice (some ⟨w.heap.size, 0, none⟩) (l.length + 80) (l.length + 80)) := hV
  rw [← hV] at ho2
  clear hV
  go_loopw [6] (fun i wr => ∃ k : Nat, l.length ≤ k ∧ k ≤ l.length + 80 ∧ i = .int .i64 k ∧ Own wr w.heap.size V (fillK l k) ∧ Below w.heap.size w wr) (fun i _ => l.length + 80 - (intOf i).toNat)
  case atStart => exact ⟨l.length, by omega, by omega, rfl, ho2, hb2⟩
  case round =>
    obtain ⟨k, hk1, hk2, rfl, hown, hbel⟩ := hrel
    clear ho2 hb2
    by_cases hlt : k < l.length + 80
    · have hl2 := fillK_len l k hk1 hk2
      have ho : wr.ownsRow w.heap.size 5 1 (.slice (some ⟨w.heap.size, 0, none⟩) (l.length + 80) (l.length + 80)) (l.length + 80) (cs (fillK l k)) := by
        have h := hown
        unfold Own at h
        rw [hl2, HV.out] at h
        exact h
      have hc1 : wr.cell? ⟨w.heap.size, k, none⟩ = some (.int .u8 (M.bAt (fillK l k) k)) := by
        rw [World.ownsRow.cellAt ho k (by omega)]
        have : k < (fillK l k).length := by omega
        simp [cs, M.bAt, this]
      have hf1 : wr.frozen? ⟨w.heap.size, k, none⟩ = false := World.ownsRow.frozenAt ho k
      have hst := World.ownsRow.stored ho k (.int .u8 165)
      have hnew : Own (wr.setCell ⟨w.heap.size, k, none⟩ (.int .u8 165)) w.heap.size V (fillK l (k + 1)) := by
        have h := hst.1
        rw [fillK_step l k hk1 hlt] at h
        show World.ownsRow _ _ _ _ _ _ _
        rw [fillK_len l (k + 1) (by omega) (by omega), HV.out]
        exact h
      have hb' : Below w.heap.size w (wr.setCell ⟨w.heap.size, k, none⟩ (.int .u8 165)) := hbel.setCell (Nat.le_refl _) _
      have HN := hnew
      clear hown ho hst hbel hl2
      go_wp2
      go_roundw
      case rel => exact ⟨k + 1, by omega, by omega, by go_num, hnew, hb'⟩
      case measure => simp [intOf]; omega
    · obtain rfl : k = l.length + 80 := by omega
      rw [fillK_end, HV.out] at hown
      have hR : Hid (∃ a' cap', Value.slice (some ⟨w.heap.size, 0, none⟩) (l.length + 80) (l.length + 80) = .slice a' (room l).length cap' ∧ Byt wr a' cap' (room l)) := hown.byt
      have hbel' : Hid (Below w.heap.size w wr) := hbel
      clear hown hbel
      go_wp2
      go_ret
      obtain ⟨a', cap', hv, hB'⟩ := hR.out
      exact ⟨a', cap', by rw [← hv]; rfl, hB', hbel'.out⟩
end Go.Proofs.YtnmonoafjijfhaaGreat
namespace Go.Proofs.YtnmonoafjijfhaaGreat
open Go.RowKit
set_option linter.unusedVariables false

theorem slice_mid (a : Option Addr) (cap j k : Nat) (l : List UInt8) (w : World) (hB : Byt w a cap l) (hj : j ≤ k) (hk : k ≤ l.length) :
    ∃ v, (Instr.sliceAt 22 (.slice a l.length cap) (some (.int .i64 j)) (some (.int .i64 k)) none).run Tryz.prog w = .ok v w ∧ IsByt ((l.drop j).take (k - j)) v w := by
  have h1 := hB.1
  have h2 := hB.2.1
  unfold maxLen at h2
  have hs := hB.sub j (k - j) (by omega)
  have hlen : ((l.drop j).take (k - j)).length = k - j := by simp; omega
  have i0 : (j : Int) ≤ (k : Int) := by omega
  have i1 : (k : Int) ≤ (cap : Int) := by omega
  have i3 : cap ≤ 9223372036854775807 := by omega
  by_cases hck : cap = j
  · have hl0 : (l.drop j).take (k - j) = [] := by
      apply List.eq_nil_of_length_eq_zero
      simp; omega
    have hkc : k = j := by omega
    subst hck
    subst hkc
    refine ⟨.slice a 0 0, ?_, ⟨a, 0, by rw [hl0]; rfl, by rw [hl0]; exact Byt.none_ a⟩⟩
    go_simp
  · refine ⟨.slice (Option.map (fun x => x.add j) a) (k - j) (cap - j), ?_, ⟨_, _, by rw [hlen], hs⟩⟩
    have hne : ¬ cap - j = 0 := by omega
    go_simp
namespace Rg
theorem good_slice3 {P : Program} {ops : Array Oper} {specs : List Spec} {a0 : Act} {C : World → Prop} {E : World → World → Prop} {o : Oper} {s : Spec} {t : TypeId} {x lo hi : Operand} {vl vh : Value} (hrefl : ∀ w, E w w) (ho : o.op = .slice t x (some lo) (some hi) none) (hg : guardV ops specs a0 o = some true) (hl : argS ops specs a0 lo = .inl vl) (hh : argS ops specs a0 hi = .inl vh)
    (h : ∀ u w, C w → (argS ops specs a0 x).ok u w → ∃ v, (Instr.sliceAt t u (some vl) (some vh) none).run P w = .ok v w ∧ s.ok v w) : GoodOp P ops specs a0 C E o s :=
  good_val hrefl hg fun a w hC hs => by
    obtain ⟨v, h1, h2⟩ := h _ w hC (hs x (by rw [ho]; simp [Op.operands]))
    have h3 := hs hi (by rw [ho]; simp [Op.operands])
    rw [hh] at h3
    have h4 := hs lo (by rw [ho]; simp [Op.operands])
    rw [hl] at h4
    simp only [Spec.ok] at h3 h4
    refine ⟨v, ?_, h2⟩
    unfold execOp
    rw [ho]
    simp only [Option.map_some, Option.map_none, h3, h4, Sem.run_bind, Result.andThen, h1, Sem.run_pure]
end Rg
end Go.Proofs.YtnmonoafjijfhaaGreat
