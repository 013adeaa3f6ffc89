/-
  The landed unlike, firstFrom, Find, From, rises and Fits, and the library's HasPrefix.
-/
import Derived.Test.YtnmonoafjijfhaaGreatM36
namespace Go.Proofs.YtnmonoafjijfhaaGreat
open Go.RowKit
set_option linter.unusedVariables false

set_option maxRecDepth 100000 in
set_option maxHeartbeats 1000000 in
theorem unlike_is (a : Option Addr) (n cap : Nat) (l : List (List UInt8)) (w : World) (hn : n = l.length) (hB : Rd st w a cap l) (hl : l.length ≤ 70000) (hS : T.Srt l) (D : List (List UInt8)) (hD : T.bld l = D) :
    Calls Tryz.prog 67 #[.slice a n cap] w fun e w' => ∃ v, e = .returned v ∧ IsRd st D v w' ∧ Ex w w' := by
  subst hn
  have HB : Hid (Rd st w a cap l) := hB
  have HD : Hid (T.bld l = D) := hD
  have HS : Hid (T.Srt l) := hS
  have hcl := hB.1
  have hcm := hB.2.1
  unfold maxLen at hcm
  have h0 : Hid (OwnR 9 st w w.heap.size (.slice none 0 0) []) := (⟨by simp, .inl ⟨rfl, rfl⟩⟩ : OwnR 9 st w w.heap.size (.slice none 0 0) [])
  have h1 : Hid (T.Rise []) := T.Rise.nil
  have h2 : Hid (∀ x, x ∈ ([] : List (List UInt8)) ↔ x ∈ l.take 0) := (fun x => by simp : ∀ x, x ∈ ([] : List (List UInt8)) ↔ x ∈ l.take 0)
  clear hB hD hS
  go_enter Tryz.func67, Tryz.ntmps67
  go_wp2_with fail
  go_loopw [3, 8] (fun v i wr => ∃ (k : Nat) (O : List (List UInt8)), k ≤ l.length ∧ O.length ≤ k ∧ i = .int .i64 k ∧ Hid (OwnR 9 st wr w.heap.size v O) ∧ Hid (T.Rise O) ∧ Hid (∀ x, x ∈ O ↔ x ∈ l.take k) ∧ Hid (Ex w wr)) (fun _ i _ => l.length - (intOf i).toNat)
  case atStart => exact ⟨0, [], by omega, by simp, rfl, h0, h1, h2, Ex.refl _⟩
  case round =>
    obtain ⟨k, O, hk, hOl, rfl, HO, HR, HM, HEx⟩ := hrel
    clear h0 h1 h2
    have hsz : w.heap.size ≤ wr.heap.size := HEx.out.size
    by_cases hlt : k < l.length
    · obtain ⟨b, off, rfl, hc⟩ := (HB.out.below HEx.out).at hlt
      obtain ⟨x, hx⟩ : ∃ x, x = l[k] := ⟨_, rfl⟩
      rw [← hx] at hc
      have hc' : wr.cell? ⟨b, off + k, none⟩ = some (.string (str x)) := hc
      have zx := str_toList x
      have hki : (k : Int) < (l.length : Int) := by omega
      have tk : decide ((k : Int) < (l.length : Int)) = true := by simp; omega
      have hat : l[k]? = some x := by rw [hx]; exact List.getElem?_eq_getElem hlt
      have HAt : Hid (l[k]? = some x) := hat
      clear hc hx hat
      by_cases hk0 : k = 0
      · have hk1 : k ≤ 0 := by omega
        have tk0 : ((k : Int) == 0) = true := by simp; omega
        have hne : ∀ y, 0 < k → l[k - 1]? = some y → x ≠ y := fun y h => by omega
        have HR2 : Hid (T.Rise (O ++ [x])) := T.uniq_new HS.out HAt.out HM.out HR.out hne
        have HM2 : Hid (∀ y, y ∈ O ++ [x] ↔ y ∈ l.take (k + 1)) := (fun y => by rw [T.take_more HAt.out, List.mem_append, List.mem_append, HM.out y] : ∀ y, y ∈ O ++ [x] ↔ y ∈ l.take (k + 1))
        have hov := HO.out
        clear hne hk0
        go_wp2_with (at_builtin; refine wpList_append_rd (e := 9) (enc := st) rfl (.tmp 24) (.tmp 26) 35 rfl [] 16 Tryz.underlying35 Tryz.info9 rfl (fun _ => rfl) w.heap.size _ O rfl (hov.alloc _) _ _ _ [x] rfl rfl (Rd.laid wr 9 [x] (by simp)) (by simp [maxLen]; omega) (by simp; omega) (by simp; omega) ?_; intro v9 w9 ho9 hg9; have X9 : Ex w w9 := step_belowR (Below.alloc HEx.out hsz _) (by simp; omega) (hov.alloc _) hg9; clear hg9)
        have HO9 : Hid (OwnR 9 st w9 w.heap.size v9 (O ++ [x])) := ho9
        have HX9 : Hid (Ex w w9) := X9
        clear ho9 X9 hov
        go_wp2
        go_roundw
        case rel => exact ⟨k + 1, O ++ [x], by omega, by simp; omega, by go_num, HO9, HR2, HM2, HX9⟩
        case measure => simp [intOf]; omega
      · obtain ⟨j, hj1, hj2⟩ : ∃ j, k ≤ j + 1 ∧ j + 1 ≤ k := ⟨k - 1, by omega, by omega⟩
        have hjl : j < l.length := by omega
        obtain ⟨_, _, e2, hcj⟩ := (HB.out.below HEx.out).at hjl
        simp only [Option.some.injEq, Addr.mk.injEq, and_true] at e2
        obtain ⟨rfl, rfl⟩ := e2
        obtain ⟨y, hy⟩ : ∃ y, y = l[j] := ⟨_, rfl⟩
        rw [← hy] at hcj
        have hcj' : wr.cell? ⟨b, off + j, none⟩ = some (.string (str y)) := hcj
        have zy := str_toList y
        have hatj : l[k - 1]? = some y := by rw [hy, show k - 1 = j from by omega]; exact List.getElem?_eq_getElem hjl
        have hji : (j : Int) < (l.length : Int) := by omega
        have hkj : (k : Int) - 1 = (j : Int) := by omega
        have tk0 : ((k : Int) == 0) = false := by simp; omega
        have HAtj : Hid (l[k - 1]? = some y) := hatj
        clear hcj hy hatj
        by_cases he : x = y
        · have hq : (x == y) = true := by simpa using he
          have HM2 : Hid (∀ z, z ∈ O ↔ z ∈ l.take (k + 1)) := (fun z => by
            rw [T.take_more HAt.out, List.mem_append, HM.out z]
            constructor
            · exact .inl
            · rintro (h | h)
              · exact h
              · have hz : z = x := by simpa using h
                rw [hz, he]
                refine List.mem_of_getElem? (i := k - 1) ?_
                rw [List.getElem?_take, if_pos (by omega)]
                exact HAtj.out : ∀ z, z ∈ O ↔ z ∈ l.take (k + 1))
          have HE : Hid (x = y) := he
          clear he
          go_wp2
          go_roundw
          case rel => exact ⟨k + 1, O, by omega, by omega, by go_num, HO, HR, HM2, HEx⟩
          case measure => simp [intOf]; omega
        · have hq : (x == y) = false := by simpa using he
          have hne : ∀ z, 0 < k → l[k - 1]? = some z → x ≠ z := fun z _ hz hxz => by
            rw [HAtj.out] at hz
            simp at hz
            exact he (by rw [hxz, hz])
          have HR2 : Hid (T.Rise (O ++ [x])) := T.uniq_new HS.out HAt.out HM.out HR.out hne
          have HM2 : Hid (∀ y, y ∈ O ++ [x] ↔ y ∈ l.take (k + 1)) := (fun y => by rw [T.take_more HAt.out, List.mem_append, List.mem_append, HM.out y] : ∀ y, y ∈ O ++ [x] ↔ y ∈ l.take (k + 1))
          have hov := HO.out
          clear hne he
          go_wp2_with (at_builtin; refine wpList_append_rd (e := 9) (enc := st) rfl (.tmp 24) (.tmp 26) 35 rfl [] 16 Tryz.underlying35 Tryz.info9 rfl (fun _ => rfl) w.heap.size _ O rfl (hov.alloc _) _ _ _ [x] rfl rfl (Rd.laid wr 9 [x] (by simp)) (by simp [maxLen]; omega) (by simp; omega) (by simp; omega) ?_; intro v9 w9 ho9 hg9; have X9 : Ex w w9 := step_belowR (Below.alloc HEx.out hsz _) (by simp; omega) (hov.alloc _) hg9; clear hg9)
          have HO9 : Hid (OwnR 9 st w9 w.heap.size v9 (O ++ [x])) := ho9
          have HX9 : Hid (Ex w w9) := X9
          clear ho9 X9 hov
          go_wp2
          go_roundw
          case rel => exact ⟨k + 1, O ++ [x], by omega, by simp; omega, by go_num, HO9, HR2, HM2, HX9⟩
          case measure => simp [intOf]; omega
    · obtain rfl : k = l.length := by omega
      have hOD : O = D := by
        rw [← HD.out]
        refine T.bld_is HR.out (fun x => ?_)
        have := HM.out x
        rwa [List.take_length] at this
      have tk : decide ((l.length : Int) < (l.length : Int)) = false := by simp
      obtain ⟨a4, c4, hv4, hb4⟩ := HO.out.rd
      rw [hOD] at hv4 hb4
      subst hv4
      have HB4 : Hid (Rd st wr a4 c4 D) := hb4
      clear HO hb4 HM HR hOD
      go_wp2
      go_ret
      exact ⟨_, rfl, ⟨a4, c4, rfl, HB4.out⟩, HEx.out⟩

set_option maxRecDepth 100000 in
theorem firstFrom_is (a : Option Addr) (n cap : Nat) (d : List (List UInt8)) (s : List UInt8) (w : World) (hn : n = d.length) (hB : Rd st w a cap d) (hl : d.length ≤ 70000) (hR : T.Rise d) (r : Nat) (hr : T.pos s d = r) :
    Calls Tryz.prog 108 #[.slice a n cap, .string (str s)] w fun e w' => e = .returned (.int .i64 (r : Int)) ∧ w' = w := by
  subst hn
  have HB : Hid (Rd st w a cap d) := hB
  have HR : Hid (T.Rise d) := hR
  have HP : Hid (T.pos s d = r) := hr
  have hrl : r ≤ d.length := by rw [← hr]; exact T.pos_le s d
  have hcl := hB.1
  have hcm := hB.2.1
  unfold maxLen at hcm
  have zs := str_toList s
  clear hB hr hR
  go_enter Tryz.func108, Tryz.ntmps108
  go_wp2_with fail
  go_loop [5, 6] (fun vl vh => ∃ L H : Nat, L ≤ r ∧ r ≤ H ∧ H ≤ d.length ∧ vl = .int .i64 (L : Int) ∧ vh = .int .i64 (H : Int)) (fun vl vh => (intOf vh).toNat - (intOf vl).toNat)
  case atStart => exact ⟨0, d.length, by omega, hrl, Nat.le_refl _, rfl, rfl⟩
  case round =>
    obtain ⟨L, H, hL, hH, hHl, rfl, rfl⟩ := hrel
    by_cases hlt : L < H
    · have tl : decide ((L : Int) < (H : Int)) = true := by simp; omega
      obtain ⟨D, hD⟩ : ∃ D : Nat, (H : Int) - (L : Int) = (D : Int) := ⟨H - L, by omega⟩
      obtain ⟨E, hE⟩ : ∃ E : Nat, (D : Int) / 2 = (E : Int) := ⟨D / 2, by omega⟩
      obtain ⟨m, hm⟩ : ∃ m : Nat, (L : Int) + (E : Int) = (m : Int) := ⟨L + E, by omega⟩
      have hm1 : L ≤ m := by omega
      have hm2 : m < H := by omega
      have hmd : m < d.length := by omega
      have hmi : (m : Int) < (d.length : Int) := by omega
      obtain ⟨b, off, rfl, hc⟩ := HB.out.at hmd
      obtain ⟨x, hx⟩ : ∃ x, x = d[m] := ⟨_, rfl⟩
      rw [← hx] at hc
      have hc' : w.cell? ⟨b, off + m, none⟩ = some (.string (str x)) := hc
      have zx := str_toList x
      have hls := T.pos_rise_lt HR.out (s := s) (i := m) (x := x) (by rw [hx]; exact List.getElem?_eq_getElem hmd)
      rw [HP.out] at hls
      clear hc hx
      by_cases hmr : m < r
      · have hl2 : Op.bytesLess x s = true := by rw [show Op.bytesLess x s = _ from hls]; simp [hmr]
        clear hls
        go_wp2
        go_round
        case rel => exact ⟨m + 1, H, by omega, hH, hHl, by go_num, rfl⟩
        case measure => simp [intOf]; omega
      · have hl2 : Op.bytesLess x s = false := by rw [show Op.bytesLess x s = _ from hls]; simp [hmr]
        clear hls
        go_wp2
        go_round
        case rel => exact ⟨L, m, hL, by omega, by omega, rfl, rfl⟩
        case measure => simp [intOf]; omega
    · have tl : decide ((L : Int) < (H : Int)) = false := by simp; omega
      obtain rfl : L = r := by omega
      go_wp2
      go_ret
      exact ⟨rfl, rfl⟩

set_option maxRecDepth 100000 in
theorem sfind_is (a : Option Addr) (n cap : Nat) (d : List (List UInt8)) (s : List UInt8) (w : World) (hn : n = d.length) (hB : Rd st w a cap d) (hl : d.length ≤ 70000) (hR : T.Rise d) (r : Option Nat) (hr : T.idx s d = r) :
    Calls Tryz.prog 69 #[.slice a n cap, .string (str s)] w fun e w' => e = .returned (.tuple #[.int .i64 ((r.getD 0 : Nat) : Int), .bool r.isSome]) ∧ w' = w := by
  subst hn
  obtain ⟨p, hp⟩ : ∃ p, T.pos s d = p := ⟨_, rfl⟩
  have hpl : p ≤ d.length := by rw [← hp]; exact T.pos_le s d
  rw [T.idx_pos hR, hp] at hr
  have HB : Hid (Rd st w a cap d) := hB
  have HP : Hid (T.pos s d = p) := hp
  have HR : Hid (T.Rise d) := hR
  have hcl := hB.1
  have hcm := hB.2.1
  unfold maxLen at hcm
  have zs := str_toList s
  clear hp hR hB
  by_cases hlt : p < d.length
  · obtain ⟨b, off, rfl, hc⟩ := HB.out.at hlt
    obtain ⟨x, hx⟩ : ∃ x, x = d[p] := ⟨_, rfl⟩
    rw [← hx] at hc
    have hc' : w.cell? ⟨b, off + p, none⟩ = some (.string (str x)) := hc
    have zx := str_toList x
    have hat : d[p]? = some x := by rw [hx]; exact List.getElem?_eq_getElem hlt
    have tp : ((p : Int) == (d.length : Int)) = false := by simp; omega
    have hpi : (p : Int) < (d.length : Int) := by omega
    rw [hat] at hr
    clear hc hx hat
    by_cases he : x = s
    · rw [if_pos (by rw [he])] at hr
      subst hr
      have hq : (x == s) = true := by simpa using he
      have HE : Hid (x = s) := he
      clear he
      go_enter Tryz.func69, Tryz.ntmps69
      go_wp2_with fail
      refine (firstFrom_is _ _ cap d s _ rfl HB.out hl HR.out p HP.out).mono ?_
      rintro e wq ⟨rfl, hw⟩
      have hw' := hw.symm; clear hw; subst hw'
      go_wp2
      go_ret2
      exact ⟨rfl, rfl⟩
    · rw [if_neg (by simpa using he)] at hr
      subst hr
      have hq : (x == s) = false := by simpa using he
      clear he
      go_enter Tryz.func69, Tryz.ntmps69
      go_wp2_with fail
      refine (firstFrom_is _ _ cap d s _ rfl HB.out hl HR.out p HP.out).mono ?_
      rintro e wq ⟨rfl, hw⟩
      have hw' := hw.symm; clear hw; subst hw'
      go_wp2
      go_ret2
      exact ⟨rfl, rfl⟩
  · rw [List.getElem?_eq_none (by omega), if_neg (by simp)] at hr
    subst hr
    have tp : ((p : Int) == (d.length : Int)) = true := by simp; omega
    go_enter Tryz.func69, Tryz.ntmps69
    go_wp2_with fail
    refine (firstFrom_is _ _ cap d s _ rfl HB.out hl HR.out p HP.out).mono ?_
    rintro e wq ⟨rfl, hw⟩
    have hw' := hw.symm; clear hw; subst hw'
    go_wp2
    go_ret2
    exact ⟨rfl, rfl⟩

set_option maxRecDepth 100000 in
theorem begins45_is (x p : List UInt8) (w : World) (hx : x.length ≤ maxLen) (hp : p.length ≤ maxLen) (r : Bool) (hr : T.begins p x = r) :
    Calls Tryz.prog 130 #[.string (str x), .string (str p)] w fun e w' => e = .returned (.bool r) ∧ w' = w := by
  unfold maxLen at hx hp
  have h1 : (str x).size = x.length := str_size x
  have h2 : (str p).size = p.length := str_size p
  have zp := str_toList p
  unfold T.begins at hr
  by_cases hl : p.length ≤ x.length
  · have t1 : decide ((p.length : Int) ≤ (x.length : Int)) = true := by simp; omega
    have hcut : (str x).extract 0 p.length = str (x.take p.length) := str_cut _ _
    have zx := str_toList (x.take p.length)
    rw [decide_eq_true hl, Bool.true_and] at hr
    by_cases he : x.take p.length = p
    · rw [decide_eq_true he] at hr
      subst hr
      have hq : (x.take p.length == p) = true := by simpa using he
      have HE : Hid (x.take p.length = p) := he
      clear he
      go_enter Tryz.func130, Tryz.ntmps130
      go_wp2
      go_ret
      exact ⟨rfl, rfl⟩
    · rw [decide_eq_false he] at hr
      subst hr
      have hq : (x.take p.length == p) = false := by simpa using he
      clear he
      go_enter Tryz.func130, Tryz.ntmps130
      go_wp2
      go_ret
      exact ⟨rfl, rfl⟩
  · have t1 : decide ((p.length : Int) ≤ (x.length : Int)) = false := by simp; omega
    rw [decide_eq_false hl, Bool.false_and] at hr
    subst hr
    go_enter Tryz.func130, Tryz.ntmps130
    go_wp2
    go_ret
    exact ⟨rfl, rfl⟩
set_option maxRecDepth 100000 in
theorem hasPrefix_is (x p : List UInt8) (w : World) (hx : x.length ≤ maxLen) (hp : p.length ≤ maxLen) (r : Bool) (hr : T.begins p x = r) :
    Calls Tryz.prog 119 #[.string (str x), .string (str p)] w fun e w' => e = .returned (.bool r) ∧ w' = w := by
  go_enter Tryz.func119, Tryz.ntmps119
  go_wp2_with fail
  refine (begins45_is x p _ hx hp r hr).mono ?_
  rintro e wq ⟨rfl, hw⟩
  have hw' := hw.symm; clear hw; subst hw'
  go_wp2
  go_ret
  exact ⟨rfl, rfl⟩

set_option maxRecDepth 100000 in
set_option maxHeartbeats 1000000 in
theorem rises_is (a : Option Addr) (n cap : Nat) (d : List (List UInt8)) (w : World) (hn : n = d.length) (hB : Rd st w a cap d) (r : Bool) (hr : T.adj d = r) :
    Calls Tryz.prog 70 #[.slice a n cap] w fun e w' => e = .returned (.bool r) ∧ Ex w w' := by
  subst hn
  have HB : Hid (Rd st w a cap d) := hB
  have HR : Hid (T.adj (d.drop 0) = r) := hr
  have hcl := hB.1
  have hcm := hB.2.1
  unfold maxLen at hcm
  clear hB hr
  go_enter Tryz.func70, Tryz.ntmps70
  go_wp2_with fail
  go_loopw [3] (fun i wr => ∃ k q : Nat, k ≤ d.length ∧ q ≤ k + 1 ∧ k + 1 ≤ q ∧ i = .int .i64 (q : Int) ∧ Hid (T.adj (d.drop k) = r) ∧ Hid (Ex w wr)) (fun i _ => d.length + 1 - (intOf i).toNat)
  case atStart => exact ⟨0, 1, by omega, by omega, by omega, rfl, HR, Ex.refl _⟩
  case round =>
    obtain ⟨k, q, hk, hq1, hq2, rfl, HA, HEx⟩ := hrel
    clear HR
    by_cases hlt : q < d.length
    · have tk : decide ((q : Int) < (d.length : Int)) = true := by simp; omega
      have hqk : q = k + 1 := by omega
      obtain ⟨b, off, rfl, hc1⟩ := (HB.out.below HEx.out).at (k := k) (by omega)
      obtain ⟨_, _, e2, hc2⟩ := (HB.out.below HEx.out).at (k := q) hlt
      simp only [Option.some.injEq, Addr.mk.injEq, and_true] at e2
      obtain ⟨rfl, rfl⟩ := e2
      obtain ⟨x, hx⟩ : ∃ x, x = d[k]'(by omega) := ⟨_, rfl⟩
      obtain ⟨y, hy⟩ : ∃ y, y = d[q] := ⟨_, rfl⟩
      rw [← hx] at hc1
      rw [← hy] at hc2
      have HC1 : Hid (wr.cell? ⟨b, off + k, none⟩ = some (.string (str x))) := hc1
      have HC2 : Hid (wr.cell? ⟨b, off + q, none⟩ = some (.string (str y))) := hc2
      have hA := HA.out
      have hd : d.drop k = x :: y :: d.drop (k + 2) := by
        have hy' : y = d[k + 1]'(by omega) := by rw [hy]; simp only [hqk]
        rw [List.drop_eq_getElem_cons (by omega), List.drop_eq_getElem_cons (show k + 1 < d.length by omega), ← hx, ← hy']
      have hd1 : d.drop (k + 1) = y :: d.drop (k + 2) := by
        have hy' : y = d[k + 1]'(by omega) := by rw [hy]; simp only [hqk]
        rw [List.drop_eq_getElem_cons (show k + 1 < d.length by omega), ← hy']
      rw [hd, T.adj, ← hd1] at hA
      have hk1 : (k : Int) < (d.length : Int) := by omega
      have hk2 : (q : Int) < (d.length : Int) := by omega
      have hq3 : (q : Int) - 1 = (k : Int) := by omega
      clear hc1 hc2 hx hy hd hd1 HA hqk
      obtain ⟨c, hle⟩ : ∃ c, T.le y x = c := ⟨_, rfl⟩
      have hlx : T.lt x y = !c := by
        cases c with
        | true => exact T.le_not.1 hle
        | false => exact T.not_le hle
      rw [hlx] at hA
      have HL : Hid ((Op.bytesLess y x || y == x) = c) := hle
      clear hle hlx
      go_wp2_with fail
      have hre := Ex.refl
      refine Rg.wp_rows [.inl (Value.slice (some { block := b, off := off }) d.length cap), .inl (Value.int IntKind.i64 ↑q), .inl (Value.pointer (some ⟨b, off + q, none⟩)), .inl (Value.string (str y)), .inl (Value.slice (some { block := b, off := off }) d.length cap), .inl (Value.int IntKind.i64 ↑q), .inl (Value.int IntKind.i64 ↑k), .inl (Value.pointer (some ⟨b, off + k, none⟩)), .inl (Value.string (str x)), .inl (.bool c)] (Ex wr) Ex 20 (by kernel_rfl) rfl (by kernel_rfl) ?st hre (Ex.drew _) ?goods ?fin
      case st => exact trivial
      case goods =>
        refine Rg.goods_cons (Rg.good_move hre rfl rfl rfl) ?_
        refine Rg.goods_cons (Rg.good_move hre rfl rfl rfl) ?_
        refine Rg.goods_cons (Rg.good_index hre rfl rfl rfl rfl (fun wx hC => by go_simp)) ?_
        refine Rg.goods_cons (Rg.good_load hre rfl rfl rfl (fun wx hC => by have hcz := dcell_ex HC2.out hC; go_simp)) ?_
        refine Rg.goods_cons (Rg.good_move hre rfl rfl rfl) ?_
        refine Rg.goods_cons (Rg.good_move hre rfl rfl rfl) ?_
        refine Rg.goods_cons (Rg.good_bin hre rfl rfl rfl rfl (fun _ => rfl) (fun w => by go_simp; first | done | exact I.wi64 _ (by omega) (by omega) | (rw [I.wi64 _ (by omega) (by omega)]; omega))) ?_
        refine Rg.goods_cons (Rg.good_index hre rfl rfl rfl rfl (fun wx hC => by go_simp)) ?_
        refine Rg.goods_cons (Rg.good_load hre rfl rfl rfl (fun wx hC => by have hcz := dcell_ex HC1.out hC; go_simp)) ?_
        refine Rg.goods_cons (Rg.good_bin hre rfl rfl rfl rfl (fun _ => rfl) (fun w => by go_simp; rw [str_toList, str_toList]; exact HL.out)) ?_
        exact Rg.goods_nil
      case fin =>
        intro wx hx
        simp only [Rg.later, Act.put, List.setIfInBounds_toArray, List.set_cons_succ, List.set_cons_zero]
        have HXx : Hid (Ex w wx) := HEx.out.trans hx
        clear hx HL
        cases c with
        | false =>
          have HN : Hid (T.adj (d.drop (k + 1)) = r) := (by simpa using hA : T.adj (d.drop (k + 1)) = r)
          clear hA
          go_wp2
          go_roundw
          case rel => exact ⟨k + 1, q + 1, by omega, by omega, by omega, by go_num, HN, HXx⟩
          case measure => simp [intOf]; omega
        | true =>
          have hrf : r = false := by simpa using hA.symm
          subst hrf
          clear hA
          go_wp2
          go_ret
          exact ⟨rfl, HXx.out⟩
    · have tk : decide ((q : Int) < (d.length : Int)) = false := by simp; omega
      have hrt : r = true := by
        rw [← HA.out]
        have hl : (d.drop k).length ≤ 1 := by simp; omega
        match hd : d.drop k, hl with
        | [], _ => rfl
        | [_], _ => rfl
      subst hrt
      go_wp2
      go_ret
      exact ⟨rfl, HEx.out⟩

set_option maxRecDepth 100000 in
set_option maxHeartbeats 1000000 in
theorem sfits_is (a : Option Addr) (n cap : Nat) (d : List (List UInt8)) (w : World) (hn : n = d.length) (hB : Rd st w a cap d) (hl : d.length ≤ 70000) (hd : ∀ x ∈ d, x.length ≤ maxLen) (r : Bool) (hr : T.fits d = r) :
    Calls Tryz.prog 34 #[.slice a n cap] w fun e w' => e = .returned (.bool r) ∧ Ex w w' := by
  subst hn
  have HB : Hid (Rd st w a cap d) := hB
  have HR : Hid (T.fits d = r) := hr
  have HD : Hid (∀ x ∈ d, x.length ≤ maxLen) := hd
  have hcl := hB.1
  have hcm := hB.2.1
  unfold maxLen at hcm
  clear hB hr hd
  by_cases h16 : d.length ≤ 16
  · have t16 : decide ((16 : Int) < (d.length : Int)) = false := by simp; omega
    have t16' : decide (16 < d.length) = false := by simp; omega
    go_enter Tryz.func34, Tryz.ntmps34
    go_wp2_with fail
    go_loop [10] (fun i => ∃ k : Nat, k ≤ d.length ∧ i = .int .i64 k ∧ Hid (∀ i x, i < k → d[i]? = some x → x.length ≤ 40)) (fun i => d.length - (intOf i).toNat)
    case atStart => exact ⟨0, by omega, rfl, (fun i x hi => by omega : ∀ i x, i < 0 → d[i]? = some x → x.length ≤ 40)⟩
    case round =>
      obtain ⟨k, hk, rfl, HS⟩ := hrel
      by_cases hlt : k < d.length
      · obtain ⟨b, off, rfl, hc⟩ := HB.out.at hlt
        obtain ⟨x, hx⟩ : ∃ x, x = d[k] := ⟨_, rfl⟩
        rw [← hx] at hc
        have hc' : w.cell? ⟨b, off + k, none⟩ = some (.string (str x)) := hc
        have hss : (str x).size = x.length := str_size x
        have hxm : x.length ≤ maxLen := by rw [hx]; exact HD.out _ (List.getElem_mem hlt)
        unfold maxLen at hxm
        have hki : (k : Int) < (d.length : Int) := by omega
        have tk : decide ((k : Int) < (d.length : Int)) = true := by simp; omega
        have hat : d[k]? = some x := by rw [hx]; exact List.getElem?_eq_getElem hlt
        by_cases h40 : x.length ≤ 40
        · have t40 : decide (40 < (x.length : Int)) = false := by simp; omega
          have HN : Hid (∀ i x, i < k + 1 → d[i]? = some x → x.length ≤ 40) := (by
            intro i y hi hy
            by_cases h : i < k
            · exact HS.out i y h hy
            · obtain rfl : i = k := by omega
              rw [hat] at hy
              simp at hy
              rw [← hy]; exact h40 : ∀ i x, i < k + 1 → d[i]? = some x → x.length ≤ 40)
          clear hc hx hat
          go_wp2
          go_round
          case rel => exact ⟨k + 1, by omega, by go_num, HN⟩
          case measure => simp [intOf]; omega
        · have t40 : decide (40 < (x.length : Int)) = true := by simp; omega
          have hrf : r = false := by
            rw [← HR.out]
            cases e : T.fits d with
            | false => rfl
            | true => exact absurd (((T.fits_iff d).1 e).1 x (List.mem_of_getElem? hat)) h40
          subst hrf
          clear hc hx hat
          go_wp2
          go_ret
          exact ⟨rfl, Ex.refl _⟩
      · obtain rfl : k = d.length := by omega
        have hall : d.all (fun s => decide (s.length ≤ 40)) = true := by
          simp only [List.all_eq_true, decide_eq_true_eq]
          intro x hx
          obtain ⟨i, hi⟩ := List.getElem?_of_mem hx
          exact HS.out i x ((List.getElem?_eq_some_iff.1 hi).1) hi
        have hR := HR.out
        unfold T.fits at hR
        rw [hall, Bool.true_and, decide_eq_true h16, Bool.true_and] at hR
        have HR2 : Hid (T.adj d = r) := hR
        have tk : decide ((d.length : Int) < (d.length : Int)) = false := by simp
        clear hall HS HR hR
        go_wp2_with fail
        refine (rises_is a _ cap d _ rfl HB.out r HR2.out).mono ?_
        rintro e w1 ⟨rfl, hx1⟩
        go_wp2
        go_ret
        exact ⟨rfl, hx1⟩
  · have t16 : decide ((16 : Int) < (d.length : Int)) = true := by simp; omega
    have t16' : decide (16 < d.length) = true := by simp; omega
    have hrf : r = false := by
      rw [← HR.out]
      cases e : T.fits d with
      | false => rfl
      | true => exact absurd (((T.fits_iff d).1 e).2.1) h16
    subst hrf
    go_enter Tryz.func34, Tryz.ntmps34
    go_wp2
    go_ret
    exact ⟨rfl, Ex.refl _⟩
end Go.Proofs.YtnmonoafjijfhaaGreat
