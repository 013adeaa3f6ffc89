/-
  The document's own put, From, Rising, Fits (layer 7) over the program.
-/
import Derived.Test.YtnmonoafjijfhaaGreatM31
import Derived.Test.YtnmonoafjijfhaaGreatM02
namespace Go.Proofs.YtnmonoafjijfhaaGreat
open Go.RowKit
set_option linter.unusedVariables false

theorem dcell_ex {w1 wx : World} {p : Addr} {v : Value} (h : w1.cell? p = some v) (hC : Ex w1 wx) : wx.cell? p = some v := by
  rw [Below.cell hC (World.block_lt_of_cell? w1 _ h)]; exact h
theorem I.wi64 (n : Int) (h1 : -9223372036854775808 ≤ n) (h2 : n ≤ 9223372036854775807) : IntKind.i64.wrap n = n := by
  simp only [IntKind.wrap, IntKind.bits, IntKind.signed]
  simp
  omega
theorem pos_step {s x : List UInt8} {d : List (List UInt8)} {k : Nat} (h : k < d.length) (hx : x = d[k]) (b : Bool) (hb : Op.bytesLess x s = b) : T.pos s (d.drop k) = if b = true then T.pos s (d.drop (k + 1)) + 1 else 0 := by
  rw [List.drop_eq_getElem_cons h, ← hx, T.pos]
  show (if Op.bytesLess x s = true then _ else _) = _
  rw [hb]
set_option maxRecDepth 100000 in
set_option maxHeartbeats 1000000 in
theorem rput7_main (a : Option Addr) (cap K : Nat) (d : List (List UInt8)) (s : List UInt8) (w : World) (hB : Rd st w a cap d) (hl : d.length ≤ 100000) (hK : T.pos s d = K) (r : List (List UInt8)) (hr : T.ins s d = r) :
    Calls Tryz.prog 74 #[.slice a d.length cap, .string (str s)] w fun e w' => ∃ v, e = .returned v ∧ IsRd st r v w' ∧ Ex w w' := by
  have HB : Hid (Rd st w a cap d) := hB
  have HK : Hid (T.pos s d = K) := hK
  have hKl : K ≤ d.length := by rw [← hK]; exact T.pos_le s d
  have hie := T.ins_eq s d
  rw [hK, hr] at hie
  have HR : Hid (r = if d[K]? = some s then d else d.take K ++ s :: d.drop K) := hie
  have hcl := hB.1
  have hcm := hB.2.1
  have hcn := hB.2.2.1
  unfold maxLen at hcm
  have zs := str_toList s
  clear hB hr hK hie
  go_enter Tryz.func74, Tryz.ntmps74
  go_wp2_with fail
  go_loop [5] (fun i => ∃ k : Nat, k ≤ K ∧ i = .int .i64 k ∧ Hid (K = k + T.pos s (d.drop k))) (fun i => d.length - (intOf i).toNat)
  case atStart => exact ⟨0, by omega, rfl, (by rw [List.drop_zero, HK.out]; simp : K = 0 + T.pos s (d.drop 0))⟩
  case round =>
    obtain ⟨k, hk, rfl, HP⟩ := hrel
    by_cases hlt : k < K
    · have hkd : k < d.length := by omega
      obtain ⟨b, off, rfl, hc⟩ := HB.out.at hkd
      obtain ⟨x, hx⟩ : ∃ x, x = d[k] := ⟨_, rfl⟩
      rw [← hx] at hc
      have hc' : w.cell? ⟨b, off + k, none⟩ = some (.string (str x)) := hc
      have zx := str_toList x
      have hki : (k : Int) < (d.length : Int) := by omega
      have tk : decide ((k : Int) < (d.length : Int)) = true := by simp; omega
      have hls : Op.bytesLess x s = true := by
        cases hb : Op.bytesLess x s with
        | true => rfl
        | false =>
          have := HP.out
          rw [pos_step hkd hx false hb] at this
          simp at this
          omega
      have HN : Hid (K = (k + 1) + T.pos s (d.drop (k + 1))) := (by have := HP.out; rw [pos_step hkd hx true hls] at this; simp at this; omega : K = (k + 1) + T.pos s (d.drop (k + 1)))
      clear hc hx HP
      go_wp2
      go_round
      case rel => exact ⟨k + 1, by omega, by go_num, HN⟩
      case measure => simp [intOf]; omega
    · obtain rfl : k = K := by omega
      by_cases hkd : k < d.length
      · obtain ⟨b, off, rfl, hc⟩ := HB.out.at hkd
        obtain ⟨x, hx⟩ : ∃ x, x = d[k] := ⟨_, rfl⟩
        rw [← hx] at hc
        have hc' : w.cell? ⟨b, off + k, none⟩ = some (.string (str x)) := hc
        have zx := str_toList x
        have hki : (k : Int) < (d.length : Int) := by omega
        have tk : decide ((k : Int) < (d.length : Int)) = true := by simp; omega
        have hls : Op.bytesLess x s = false := by
          cases hb : Op.bytesLess x s with
          | false => rfl
          | true =>
            have := HP.out
            rw [pos_step hkd hx true hb] at this
            simp at this
        have hat : d[k]? = some x := by rw [hx]; exact List.getElem?_eq_getElem hkd
        have hR := HR.out
        rw [hat] at hR
        by_cases he : x = s
        · rw [if_pos (by rw [he])] at hR
          have hq : (x == s) = true := by simpa using he
          have HRd : Hid (IsRd st r (.slice (some ⟨b, off, none⟩) d.length cap) w) := (by rw [hR]; exact ⟨_, _, rfl, HB.out⟩ : IsRd st r (.slice (some ⟨b, off, none⟩) d.length cap) w)
          clear hc hx HP hat hR he HR HK
          go_wp2
          go_ret
          exact ⟨_, rfl, HRd.out, Ex.refl _⟩
        · rw [if_neg (by simpa using he)] at hR
          have hq : (x == s) = false := by simpa using he
          have HR2 : Hid (r = d.take k ++ s :: d.drop k) := hR
          have hO0 : OwnR 9 st (w.alloc (.cells #[] 9)) w.heap.size (.slice (some ⟨w.heap.size, 0, none⟩) 0 0) [] := OwnR.empty w _ (Nat.le_refl _)
          have hxa : Ex w (w.alloc (.cells #[] 9)) := (Below.refl _ _).alloc (Nat.le_refl _) _
          have htk : k = (d.take k).length := by simp; omega
          have HTk : Hid (k = (d.take k).length) := htk
          have hdk : d.length - k = (d.drop k).length := by simp
          have HDk : Hid (d.length - k = (d.drop k).length) := hdk
          have hne : ¬ cap - k = 0 := by omega
          have hkc : (k : Int) ≤ (cap : Int) := by omega
          clear hc hx HP hat hR he HR HK htk hdk
          go_wp2_with (first
            | (at_builtin; refine wpList_append_rd (e := 9) (enc := st) rfl (.tmp 34) (.tmp 37) 35 rfl [] 16 Tryz.underlying35 Tryz.info9 rfl (fun _ => rfl) w.heap.size _ [] rfl hO0 _ _ _ (d.take k) rfl HTk.out ((HB.out.take k).below hxa) (by simp [maxLen]; omega) (by simp; omega) hxa.size ?_; intro v38 w38 ho38 hg38; have hx38 : Ex w w38 := step_belowR hxa hxa.size hO0 hg38; rw [List.nil_append] at ho38; clear hg38)
            | (at_builtin; refine wpList_append_rd (e := 9) (enc := st) rfl (.tmp 38) (.tmp 40) 35 rfl [] 16 Tryz.underlying35 Tryz.info9 rfl (fun _ => rfl) w.heap.size _ (d.take k) rfl (ho38.alloc _) _ _ _ [s] rfl rfl (Rd.laid w38 9 [s] (by simp)) (by simp [maxLen]; omega) (by simp; omega) (by have := hx38.size; simp; omega) ?_; intro v41 w41 ho41 hg41; have hx41 : Ex w w41 := step_belowR (Below.alloc hx38 hx38.size _) (by have := hx38.size; simp; omega) (ho38.alloc _) hg41; clear hg41)
            | (at_builtin; refine wpList_append_rd (e := 9) (enc := st) rfl (.tmp 42) (.tmp 45) 35 rfl [] 16 Tryz.underlying35 Tryz.info9 rfl (fun _ => rfl) w.heap.size _ (d.take k ++ [s]) rfl ho41 _ _ _ (d.drop k) rfl HDk.out ((HB.out.from k hKl).below hx41) (by simp [maxLen]; omega) (by simp; omega) hx41.size ?_; intro v46 w46 ho46 hg46; have hx46 : Ex w w46 := step_belowR hx41 hx41.size ho41 hg46; clear hg46))
          go_ret
          refine ⟨_, rfl, ?_, hx46⟩
          rw [HR2.out, show d.take k ++ s :: d.drop k = d.take k ++ [s] ++ d.drop k from by simp]
          exact ho46.rd
      · obtain rfl : k = d.length := by omega
        have tk : decide ((d.length : Int) < (d.length : Int)) = false := by simp
        have hR := HR.out
        rw [List.getElem?_eq_none (Nat.le_refl _), if_neg (by simp), List.take_length, List.drop_length] at hR
        have HR2 : Hid (r = d ++ [s]) := hR
        have hO0 : OwnR 9 st (w.alloc (.cells #[] 9)) w.heap.size (.slice (some ⟨w.heap.size, 0, none⟩) 0 0) [] := OwnR.empty w _ (Nat.le_refl _)
        have hxa : Ex w (w.alloc (.cells #[] 9)) := (Below.refl _ _).alloc (Nat.le_refl _) _
        have hkc : (d.length : Int) ≤ (cap : Int) := by omega
        clear HP hR HR HK
        by_cases hne : cap - d.length = 0
        · have hz : ∀ w', Rd st w' a 0 [] := fun w' => Rd.none_d w' a
          go_wp2_with (first
            | (at_builtin; refine wpList_append_rd (e := 9) (enc := st) rfl (.tmp 34) (.tmp 37) 35 rfl [] 16 Tryz.underlying35 Tryz.info9 rfl (fun _ => rfl) w.heap.size _ [] rfl hO0 _ _ _ d rfl rfl (HB.out.below hxa) (by simp [maxLen]; omega) (by simp; omega) hxa.size ?_; intro v38 w38 ho38 hg38; have hx38 : Ex w w38 := step_belowR hxa hxa.size hO0 hg38; rw [List.nil_append] at ho38; clear hg38)
            | (at_builtin; refine wpList_append_rd (e := 9) (enc := st) rfl (.tmp 38) (.tmp 40) 35 rfl [] 16 Tryz.underlying35 Tryz.info9 rfl (fun _ => rfl) w.heap.size _ d rfl (ho38.alloc _) _ _ _ [s] rfl rfl (Rd.laid w38 9 [s] (by simp)) (by simp [maxLen]; omega) (by simp; omega) (by have := hx38.size; simp; omega) ?_; intro v41 w41 ho41 hg41; have hx41 : Ex w w41 := step_belowR (Below.alloc hx38 hx38.size _) (by have := hx38.size; simp; omega) (ho38.alloc _) hg41; clear hg41)
            | (at_builtin; refine wpList_append_rd (e := 9) (enc := st) rfl (.tmp 42) (.tmp 45) 35 rfl [] 16 Tryz.underlying35 Tryz.info9 rfl (fun _ => rfl) w.heap.size _ (d ++ [s]) rfl ho41 _ _ _ [] rfl rfl (hz w41) (by simp [maxLen]; omega) (by simp; omega) hx41.size ?_; intro v46 w46 ho46 hg46; have hx46 : Ex w w46 := step_belowR hx41 hx41.size ho41 hg46; clear hg46))
          go_ret
          refine ⟨_, rfl, ?_, hx46⟩
          rw [HR2.out]
          rw [List.append_nil] at ho46
          exact ho46.rd
        · obtain ⟨g, hg⟩ : ∃ g, a = some g := by
            cases a with
            | none => exact absurd (hcn rfl) (by omega)
            | some g => exact ⟨g, rfl⟩
          subst hg
          have hz : ∀ w' (x : Addr), Rd st w' (some x) (cap - d.length) [] := fun w' x => ⟨by simp, by unfold maxLen; omega, by simp, fun i y hi => by simp at hi⟩
          go_wp2_with (first
            | (at_builtin; refine wpList_append_rd (e := 9) (enc := st) rfl (.tmp 34) (.tmp 37) 35 rfl [] 16 Tryz.underlying35 Tryz.info9 rfl (fun _ => rfl) w.heap.size _ [] rfl hO0 _ _ _ d rfl rfl (HB.out.below hxa) (by simp [maxLen]; omega) (by simp; omega) hxa.size ?_; intro v38 w38 ho38 hg38; have hx38 : Ex w w38 := step_belowR hxa hxa.size hO0 hg38; rw [List.nil_append] at ho38; clear hg38)
            | (at_builtin; refine wpList_append_rd (e := 9) (enc := st) rfl (.tmp 38) (.tmp 40) 35 rfl [] 16 Tryz.underlying35 Tryz.info9 rfl (fun _ => rfl) w.heap.size _ d rfl (ho38.alloc _) _ _ _ [s] rfl rfl (Rd.laid w38 9 [s] (by simp)) (by simp [maxLen]; omega) (by simp; omega) (by have := hx38.size; simp; omega) ?_; intro v41 w41 ho41 hg41; have hx41 : Ex w w41 := step_belowR (Below.alloc hx38 hx38.size _) (by have := hx38.size; simp; omega) (ho38.alloc _) hg41; clear hg41)
            | (at_builtin; refine wpList_append_rd (e := 9) (enc := st) rfl (.tmp 42) (.tmp 45) 35 rfl [] 16 Tryz.underlying35 Tryz.info9 rfl (fun _ => rfl) w.heap.size _ (d ++ [s]) rfl ho41 _ _ _ [] rfl rfl (hz w41 _) (by simp [maxLen]; omega) (by simp; omega) hx41.size ?_; intro v46 w46 ho46 hg46; have hx46 : Ex w w46 := step_belowR hx41 hx41.size ho41 hg46; clear hg46))
          go_ret
          refine ⟨_, rfl, ?_, hx46⟩
          rw [HR2.out]
          rw [List.append_nil] at ho46
          exact ho46.rd
theorem rput7_is (a : Option Addr) (n cap : Nat) (d : List (List UInt8)) (s : List UInt8) (w : World) (hn : n = d.length) (hB : Rd st w a cap d) (hl : d.length ≤ 100000) (r : List (List UInt8)) (hr : T.ins s d = r) :
    Calls Tryz.prog 74 #[.slice a n cap, .string (str s)] w fun e w' => ∃ v, e = .returned v ∧ IsRd st r v w' ∧ Ex w w' := by
  subst hn; exact rput7_main a cap _ d s w hB hl rfl r hr

set_option maxRecDepth 100000 in
set_option maxHeartbeats 1000000 in
theorem rrising_is (a : Option Addr) (n cap : Nat) (d : List (List UInt8)) (w : World) (hn : n = d.length) (hB : Rd st w a cap d) (r : Bool) (hr : T.adj d = r) :
    Calls Tryz.prog 92 #[.slice a n cap] w fun e w' => e = .returned (.bool r) ∧ Ex w w' := by
  subst hn
  have HB : Hid (Rd st w a cap d) := hB
  have HR : Hid (T.adj (d.drop 0) = r) := hr
  have hcl := hB.1
  have hcm := hB.2.1
  unfold maxLen at hcm
  clear hB hr
  go_enter Tryz.func92, Tryz.ntmps92
  go_wp2_with fail
  go_loopw [3] (fun i wr => ∃ k q : Nat, k ≤ d.length ∧ q ≤ k + 1 ∧ k + 1 ≤ q ∧ i = .int .i64 (q : Int) ∧ Hid (T.adj (d.drop k) = r) ∧ Hid (Ex w wr)) (fun i _ => d.length + 1 - (intOf i).toNat)
  case atStart => exact ⟨0, 1, by omega, by omega, by omega, rfl, HR, Ex.refl _⟩
  case round =>
    obtain ⟨k, q, hk, hq1, hq2, rfl, HA, HEx⟩ := hrel
    clear HR
    by_cases hlt : q < d.length
    · have tk : decide ((q : Int) < (d.length : Int)) = true := by simp; omega
      have hqk : q = k + 1 := by omega
      obtain ⟨b, off, rfl, hc1⟩ := (HB.out.below HEx.out).at (k := k) (by omega)
      obtain ⟨_, _, e2, hc2⟩ := (HB.out.below HEx.out).at (k := q) hlt
      simp only [Option.some.injEq, Addr.mk.injEq, and_true] at e2
      obtain ⟨rfl, rfl⟩ := e2
      obtain ⟨x, hx⟩ : ∃ x, x = d[k]'(by omega) := ⟨_, rfl⟩
      obtain ⟨y, hy⟩ : ∃ y, y = d[q] := ⟨_, rfl⟩
      rw [← hx] at hc1
      rw [← hy] at hc2
      have HC1 : Hid (wr.cell? ⟨b, off + k, none⟩ = some (.string (str x))) := hc1
      have HC2 : Hid (wr.cell? ⟨b, off + q, none⟩ = some (.string (str y))) := hc2
      have hA := HA.out
      have hd : d.drop k = x :: y :: d.drop (k + 2) := by
        have hy' : y = d[k + 1]'(by omega) := by rw [hy]; simp only [hqk]
        rw [List.drop_eq_getElem_cons (by omega), List.drop_eq_getElem_cons (show k + 1 < d.length by omega), ← hx, ← hy']
      have hd1 : d.drop (k + 1) = y :: d.drop (k + 2) := by
        have hy' : y = d[k + 1]'(by omega) := by rw [hy]; simp only [hqk]
        rw [List.drop_eq_getElem_cons (show k + 1 < d.length by omega), ← hy']
      rw [hd, T.adj, ← hd1] at hA
      have hk1 : (k : Int) < (d.length : Int) := by omega
      have hk2 : (q : Int) < (d.length : Int) := by omega
      have hq3 : (q : Int) - 1 = (k : Int) := by omega
      clear hc1 hc2 hx hy hd hd1 HA hqk
      cases hb : Op.bytesLess x y with
      | true =>
        have HL : Hid (Op.bytesLess x y = true) := hb
        have hA2 : T.adj (d.drop (k + 1)) = r := by
          have hb' : T.lt x y = true := hb
          rw [hb', Bool.true_and] at hA
          exact hA
        have HN : Hid (T.adj (d.drop (k + 1)) = r) := hA2
        clear hb hA hA2
        go_wp2_with fail
        have hre := Ex.refl
        refine Rg.wp_rows [.inl (Value.slice (some { block := b, off := off }) d.length cap), .inl (Value.int IntKind.i64 ↑q), .inl (Value.int IntKind.i64 ↑k), .inl (Value.pointer (some ⟨b, off + k, none⟩)), .inl (Value.string (str x)), .inl (Value.slice (some { block := b, off := off }) d.length cap), .inl (Value.int IntKind.i64 ↑q), .inl (Value.pointer (some ⟨b, off + q, none⟩)), .inl (Value.string (str y)), .inl (.bool false)] (Ex wr) Ex 20 (by kernel_rfl) rfl (by kernel_rfl) ?st hre (Ex.drew _) ?goods ?fin
        case st => exact trivial
        case goods =>
          refine Rg.goods_cons (Rg.good_move hre rfl rfl rfl) ?_
          refine Rg.goods_cons (Rg.good_move hre rfl rfl rfl) ?_
          refine Rg.goods_cons (Rg.good_bin hre rfl rfl rfl rfl (fun _ => rfl) (fun w => by go_simp; first | done | exact I.wi64 _ (by omega) (by omega) | (rw [I.wi64 _ (by omega) (by omega)]; omega))) ?_
          refine Rg.goods_cons (Rg.good_index hre rfl rfl rfl rfl (fun wx hC => by go_simp)) ?_
          refine Rg.goods_cons (Rg.good_load hre rfl rfl rfl (fun wx hC => by have hcz := dcell_ex HC1.out hC; go_simp)) ?_
          refine Rg.goods_cons (Rg.good_move hre rfl rfl rfl) ?_
          refine Rg.goods_cons (Rg.good_move hre rfl rfl rfl) ?_
          refine Rg.goods_cons (Rg.good_index hre rfl rfl rfl rfl (fun wx hC => by go_simp)) ?_
          refine Rg.goods_cons (Rg.good_load hre rfl rfl rfl (fun wx hC => by have hcz := dcell_ex HC2.out hC; go_simp)) ?_
          refine Rg.goods_cons (Rg.good_bin hre rfl rfl rfl rfl (fun _ => rfl) (fun w => by go_simp; rw [str_toList, str_toList]; exact HL.out)) ?_
          exact Rg.goods_nil
        case fin =>
          intro wx hx
          simp only [Rg.later, Act.put, List.setIfInBounds_toArray, List.set_cons_succ, List.set_cons_zero]
          have HXx : Hid (Ex w wx) := HEx.out.trans hx
          clear hx
          go_wp2
          go_roundw
          case rel => exact ⟨k + 1, q + 1, by omega, by omega, by omega, by go_num, HN, HXx⟩
          case measure => simp [intOf]; omega
      | false =>
        have HL : Hid (Op.bytesLess x y = false) := hb
        have hrf : r = false := by
          have hb' : T.lt x y = false := hb
          rw [hb', Bool.false_and] at hA
          exact hA.symm
        subst hrf
        clear hb hA
        go_wp2_with fail
        have hre := Ex.refl
        refine Rg.wp_rows [.inl (Value.slice (some { block := b, off := off }) d.length cap), .inl (Value.int IntKind.i64 ↑q), .inl (Value.int IntKind.i64 ↑k), .inl (Value.pointer (some ⟨b, off + k, none⟩)), .inl (Value.string (str x)), .inl (Value.slice (some { block := b, off := off }) d.length cap), .inl (Value.int IntKind.i64 ↑q), .inl (Value.pointer (some ⟨b, off + q, none⟩)), .inl (Value.string (str y)), .inl (.bool true)] (Ex wr) Ex 20 (by kernel_rfl) rfl (by kernel_rfl) ?st hre (Ex.drew _) ?goods ?fin
        case st => exact trivial
        case goods =>
          refine Rg.goods_cons (Rg.good_move hre rfl rfl rfl) ?_
          refine Rg.goods_cons (Rg.good_move hre rfl rfl rfl) ?_
          refine Rg.goods_cons (Rg.good_bin hre rfl rfl rfl rfl (fun _ => rfl) (fun w => by go_simp; first | done | exact I.wi64 _ (by omega) (by omega) | (rw [I.wi64 _ (by omega) (by omega)]; omega))) ?_
          refine Rg.goods_cons (Rg.good_index hre rfl rfl rfl rfl (fun wx hC => by go_simp)) ?_
          refine Rg.goods_cons (Rg.good_load hre rfl rfl rfl (fun wx hC => by have hcz := dcell_ex HC1.out hC; go_simp)) ?_
          refine Rg.goods_cons (Rg.good_move hre rfl rfl rfl) ?_
          refine Rg.goods_cons (Rg.good_move hre rfl rfl rfl) ?_
          refine Rg.goods_cons (Rg.good_index hre rfl rfl rfl rfl (fun wx hC => by go_simp)) ?_
          refine Rg.goods_cons (Rg.good_load hre rfl rfl rfl (fun wx hC => by have hcz := dcell_ex HC2.out hC; go_simp)) ?_
          refine Rg.goods_cons (Rg.good_bin hre rfl rfl rfl rfl (fun _ => rfl) (fun w => by go_simp; rw [str_toList, str_toList]; exact HL.out)) ?_
          exact Rg.goods_nil
        case fin =>
          intro wx hx
          simp only [Rg.later, Act.put, List.setIfInBounds_toArray, List.set_cons_succ, List.set_cons_zero]
          have HXx : Hid (Ex w wx) := HEx.out.trans hx
          clear hx
          go_wp2
          go_ret
          exact ⟨rfl, HXx.out⟩
    · have tk : decide ((q : Int) < (d.length : Int)) = false := by simp; omega
      have hrt : r = true := by
        rw [← HA.out]
        have hl : (d.drop k).length ≤ 1 := by simp; omega
        match hd : d.drop k, hl with
        | [], _ => rfl
        | [_], _ => rfl
      subst hrt
      go_wp2
      go_ret
      exact ⟨rfl, HEx.out⟩

set_option maxRecDepth 100000 in
set_option maxHeartbeats 1000000 in
theorem rfits_is (a : Option Addr) (n cap : Nat) (d : List (List UInt8)) (w : World) (hn : n = d.length) (hB : Rd st w a cap d) (hd : ∀ x ∈ d, x.length ≤ maxLen) (r : Bool) (hr : T.fits d = r) :
    Calls Tryz.prog 79 #[.slice a n cap] w fun e w' => e = .returned (.bool r) ∧ Ex w w' := by
  subst hn
  have HB : Hid (Rd st w a cap d) := hB
  have HR : Hid (T.fits d = r) := hr
  have HD : Hid (∀ x ∈ d, x.length ≤ maxLen) := hd
  have hcl := hB.1
  have hcm := hB.2.1
  unfold maxLen at hcm
  clear hB hr hd
  go_enter Tryz.func79, Tryz.ntmps79
  go_wp2_with fail
  go_loop [3] (fun i => ∃ k : Nat, k ≤ d.length ∧ i = .int .i64 k ∧ Hid (∀ i x, i < k → d[i]? = some x → x.length ≤ 40)) (fun i => d.length - (intOf i).toNat)
  case atStart => exact ⟨0, by omega, rfl, (fun i x hi => by omega : ∀ i x, i < 0 → d[i]? = some x → x.length ≤ 40)⟩
  case round =>
    obtain ⟨k, hk, rfl, HS⟩ := hrel
    by_cases hlt : k < d.length
    · obtain ⟨b, off, rfl, hc⟩ := HB.out.at hlt
      obtain ⟨x, hx⟩ : ∃ x, x = d[k] := ⟨_, rfl⟩
      rw [← hx] at hc
      have hc' : w.cell? ⟨b, off + k, none⟩ = some (.string (str x)) := hc
      have hss : (str x).size = x.length := str_size x
      have hxm : x.length ≤ maxLen := by rw [hx]; exact HD.out _ (List.getElem_mem hlt)
      unfold maxLen at hxm
      have hki : (k : Int) < (d.length : Int) := by omega
      have tk : decide ((k : Int) < (d.length : Int)) = true := by simp; omega
      have hat : d[k]? = some x := by rw [hx]; exact List.getElem?_eq_getElem hlt
      by_cases h40 : x.length ≤ 40
      · have t40 : decide (40 < (x.length : Int)) = false := by simp; omega
        have HN : Hid (∀ i x, i < k + 1 → d[i]? = some x → x.length ≤ 40) := (by
          intro i y hi hy
          by_cases h : i < k
          · exact HS.out i y h hy
          · obtain rfl : i = k := by omega
            rw [hat] at hy
            simp at hy
            rw [← hy]; exact h40 : ∀ i x, i < k + 1 → d[i]? = some x → x.length ≤ 40)
        clear hc hx hat
        go_wp2
        go_round
        case rel => exact ⟨k + 1, by omega, by go_num, HN⟩
        case measure => simp [intOf]; omega
      · have t40 : decide (40 < (x.length : Int)) = true := by simp; omega
        have hrf : r = false := by
          rw [← HR.out]
          cases e : T.fits d with
          | false => rfl
          | true => exact absurd (((T.fits_iff d).1 e).1 x (List.mem_of_getElem? hat)) h40
        subst hrf
        clear hc hx hat
        go_wp2
        go_ret
        exact ⟨rfl, Ex.refl _⟩
    · obtain rfl : k = d.length := by omega
      have hall : d.all (fun s => decide (s.length ≤ 40)) = true := by
        simp only [List.all_eq_true, decide_eq_true_eq]
        intro x hx
        obtain ⟨i, hi⟩ := List.getElem?_of_mem hx
        exact HS.out i x ((List.getElem?_eq_some_iff.1 hi).1) hi
      have hR := HR.out
      unfold T.fits at hR
      rw [hall, Bool.true_and] at hR
      clear hall HS HR
      by_cases h16 : d.length ≤ 16
      · have t16 : decide ((d.length : Int) ≤ 16) = true := by simp; omega
        rw [decide_eq_true h16, Bool.true_and] at hR
        have HR2 : Hid (T.adj d = r) := hR
        clear hR
        go_wp2_with fail
        refine (rrising_is a _ cap d _ rfl HB.out r HR2.out).mono ?_
        rintro e w1 ⟨rfl, hx1⟩
        go_wp2
        go_ret
        exact ⟨rfl, hx1⟩
      · have t16 : decide ((d.length : Int) ≤ 16) = false := by simp; omega
        rw [decide_eq_false h16, Bool.false_and] at hR
        subst hR
        go_wp2
        go_ret
        exact ⟨rfl, Ex.refl _⟩
end Go.Proofs.YtnmonoafjijfhaaGreat
