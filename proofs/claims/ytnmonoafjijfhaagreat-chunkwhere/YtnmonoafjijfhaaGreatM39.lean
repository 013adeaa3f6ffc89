/-
  The landed reader of a column: texts, dict.
-/
import Derived.Test.YtnmonoafjijfhaaGreatM31
import Derived.Test.YtnmonoafjijfhaaGreatM38
namespace Go.Proofs.YtnmonoafjijfhaaGreat
open Go.RowKit
set_option linter.unusedVariables false
set_option linter.unusedSimpArgs false
set_option maxHeartbeats 8000000 in
set_option maxRecDepth 100000 in
theorem rtexts_is (g : Nat) (a : Option Addr) (cap : Nat) (b : List UInt8) (s : CS) (n : Int) (m : Nat) (w : World) (h : Rdr w g a cap b s) (hn : n = m) (hm : m ≤ 70000) :
    Calls Tryz.prog 88 #[.pointer (some ⟨g, 0, none⟩), .int .i64 n] w fun x w' => ∃ u, x = .returned u ∧ OwnC w' w.heap.size u (Ck.ltexts b m [] s).1 ∧ Rdr w' g a cap b (Ck.ltexts b m [] s).2 ∧ w.grownBy w' (some g) := by
  subst hn
  have H : Hid (Rdr w g a cap b s) := h
  have hglt : g < w.heap.size := h.1.lt
  have HB : Hid (0 < b.length → ∀ q off, a = some ⟨q, off, none⟩ → q < w.heap.size) := h.blk
  obtain ⟨⟨R1, R2⟩, hR⟩ : ∃ x, Ck.ltexts b m [] s = x := ⟨_, rfl⟩
  have HR : Hid (Ck.ltexts b m [] s = (R1, R2)) := hR
  rw [hR]
  clear h hR
  go_enter Tryz.func88, Tryz.ntmps88
  go_wp2_with fail
  go_loopw [5, 6] (fun ov sv wr => ∃ (f : Nat) (o : List Ce) (s1 : CS) (a9 : Option Addr) (c9 : Nat), o.length + f = m ∧ ov = .slice a9 o.length c9 ∧ Hid (OwnC wr w.heap.size (.slice a9 o.length c9) o) ∧ Hid (Rdr wr g a cap b s1) ∧ Hid (Ck.ltexts b f o s1 = (R1, R2)) ∧ Hid (w.grownBy wr (some g))) (fun ov sv wr => m - lenOf ov)
  case atStart => exact ⟨m, [], s, none, 0, by simp, rfl, ownW_none _ _, H, HR, World.grownBy.refl _ _⟩
  case round =>
    obtain ⟨f, o, s1, a9, c9, hf, rfl, HO, HRd, HL, HG0⟩ := hrel
    clear H HR
    obtain ⟨at', y1⟩ := s1
    obtain ⟨i0, i1, i2⟩ := HRd.out.1.all
    simp only at i1 i2
    obtain ⟨ol, hol⟩ : ∃ ol, o.length = ol := ⟨_, rfl⟩
    have HOL : Hid (o.length = ol) := hol
    rw [hol] at hf HO ⊢
    clear hol
    by_cases hf0 : f = 0
    · subst hf0
      have t1 : ¬ (ol : Int) < (m : Int) := by omega
      have hL := HL.out
      simp only [Ck.ltexts, Prod.mk.injEq] at hL
      obtain ⟨rfl, hL2⟩ := hL
      have HL2 : Hid ((⟨at', y1⟩ : CS) = R2) := hL2
      clear hL2 HL
      go_wp2_with fail
      go_ret
      exact ⟨_, rfl, HO.out, by rw [← HL2.out]; exact HRd.out, HG0.out⟩
    · obtain ⟨f1, hf1⟩ : ∃ f1, f = f1 + 1 := ⟨f - 1, by omega⟩
      have t1 : (ol : Int) < (m : Int) := by omega
      have hle : ol + 1 ≤ m := by omega
      have hL := HL.out
      rw [hf1, Ck.ltexts] at hL
      by_cases hy : y1 = 0
      · subst hy
        rw [if_neg (by simp), Ck.ltxt_0] at hL
        obtain ⟨⟨V, k, e⟩, hG⟩ : ∃ x, M.getText b at' 40 = x := ⟨_, rfl⟩
        rw [hG] at hL
        simp only at hL
        have HG : Hid (M.getText b at' 40 = (V, k, e)) := hG
        have HL1 : Hid (Ck.ltexts b f1 (o ++ [Ck.tc V]) ⟨(k : Int), e⟩ = (R1, R2)) := hL
        have hf2 : ol + 1 + f1 = m := by omega
        clear hG hL HL hf hf1 hf0
        go_wp2_with fail
        have hre : ∀ u : World, u = u := fun _ => rfl
        have HD : Hid (Rdr wr.drew g a cap b ⟨at', 0⟩) := HRd.out.below (Ex.drew wr)
        obtain ⟨j0, j1, j2⟩ := HD.out.1.all
        simp only at j1 j2
        refine Rg.Fr.wp_call2 10 18 21 (by decide) (by decide) (by decide) (fun a b => a.grownBy b (some g)) (fun w2 => Ex wr.drew w2) (fun w2 => Rdr w2 g a cap b ⟨(k : Int), 0⟩ ∧ wr.drew.grownBy w2 (some g)) (fun w2 => Rdr w2 g a cap b ⟨(k : Int), e⟩ ∧ wr.drew.grownBy w2 (some g)) [5, 9] [.inl (Value.pointer (some ⟨g, 0, none⟩)), .inl (Value.pointer (some ⟨g, 0, none⟩)), .inl (Value.pointer (some ⟨g, 0, none⟩)), .inl (Value.pointer (some ⟨g, 0, none⟩)), .inl (Value.pointer (some ⟨g, 0, none⟩)), .inl (Value.slice a b.length cap), .inl (Value.pointer (some ⟨g, 0, none⟩)), .inl (Value.pointer (some ⟨g, 0, none⟩)), .inl (Value.pointer (some ⟨g, 1, none⟩)), .inl (Value.int .i64 at'), .inl (Value.tuple #[Value.string (str V), .int .i64 (k : Int), .int .i64 (e : Int)]), .inl (Value.tuple #[Value.string (str V), .int .i64 (k : Int), .int .i64 (e : Int)]), .inl (Value.string (str V)), .inl (Value.int .i64 (k : Int)), .inl (Value.int .i64 (e : Int)), .inl (Value.string (str V)), .inl (Value.pointer (some ⟨g, 0, none⟩)), .inl (Value.pointer (some ⟨g, 1, none⟩)), .inl undef, .inl (Value.pointer (some ⟨g, 0, none⟩)), .inl (Value.pointer (some ⟨g, 2, none⟩)), .inl undef] 43 (by kernel_rfl) rfl (by kernel_rfl) (by kernel_rfl) ?hst (fun w => World.grownBy.refl _ _) _ _ _ rfl rfl rfl (by kernel_rfl) (by kernel_rfl) (by kernel_rfl) rfl rfl _ _ _ _ _ Tryz.func113 (by kernel_rfl) rfl rfl ?rc ?rx ?ry ?hG ?hF
        case hst =>
          refine trivial
        case rc =>
          intro ρ ha
          have h1 : ρ (.tmp 24) = .slice a b.length cap := ha (.tmp 24) (by simp)
          have h2 : ρ (.tmp 28) = .int .i64 at' := ha (.tmp 28) (by simp)
          have h3 : ρ (.const (.int .i64 40)) = .int .i64 40 := ha (.const (.int .i64 40)) (by simp)
          simp only [List.map_toArray, List.map_cons, List.map_nil, h1, h2, h3]
          exact (getText_any a _ cap b at' 40 _ HD.out.2.1 rfl (by omega) (by omega) V k e HG.out).mono fun x w' ⟨h4, h5⟩ => ⟨_, h4, rfl, by rw [h5]; exact World.grownBy.refl _ _, by rw [h5]; exact Ex.refl _⟩
        case rx =>
          intro ρ w2 hx ha
          have h1 : ρ (.tmp 34) = .pointer (some ⟨g, 1, none⟩) := ha (.tmp 34) (by simp [Op.operands])
          have h2 : ρ (.tmp 31) = .int .i64 (k : Int) := ha (.tmp 31) (by simp [Op.operands])
          have HR := HD.out.below hx
          obtain ⟨l0, l1, l2⟩ := HR.1.all
          obtain ⟨m1, m2⟩ := HR.1.fro
          simp only at l1 l2
          exact ⟨w2.setCell ⟨g, 1, none⟩ (.int .i64 (k : Int)), by simp [execOp, h1, h2, go_sem, l1, m1], grown_set1 _ _ _ _, HR.to (HR.1.set1 (k : Int)) (grown_set1 _ _ _ _), grown_tr (hx.grownBy _) (grown_set1 _ _ _ _)⟩
        case ry =>
          intro ρ w2 hx ha
          have h1 : ρ (.tmp 36) = .pointer (some ⟨g, 2, none⟩) := ha (.tmp 36) (by simp [Op.operands])
          have h2 : ρ (.tmp 32) = .int .i64 (e : Int) := ha (.tmp 32) (by simp [Op.operands])
          obtain ⟨l0, l1, l2⟩ := hx.1.1.all
          obtain ⟨m1, m2⟩ := hx.1.1.fro
          simp only at l1 l2
          exact ⟨w2.setCell ⟨g, 2, none⟩ (.int .i64 (e : Int)), by simp [execOp, h1, h2, go_sem, l2, m2], grown_set1 _ _ _ _, hx.1.to (hx.1.1.set2 e) (grown_set1 _ _ _ _), grown_tr hx.2 (grown_set1 _ _ _ _)⟩
        case hG =>
          refine ⟨fun _ _ _ => Rg.good_move hre rfl rfl rfl, ?_⟩
          refine ⟨fun _ _ _ => Rg.good_move hre rfl rfl rfl, ?_⟩
          refine ⟨fun _ _ _ => Rg.good_move hre rfl rfl rfl, ?_⟩
          refine ⟨fun _ _ _ => Rg.good_nil hre rfl rfl rfl, ?_⟩
          refine ⟨fun _ _ _ => Rg.good_field hre rfl rfl rfl (fun wx hC => by go_simp), ?_⟩
          refine ⟨fun _ _ _ => Rg.good_load hre rfl rfl rfl (fun wx hC => by have hw := hC (by decide); subst hw; go_simp), ?_⟩
          refine ⟨fun _ _ _ => Rg.good_move hre rfl rfl rfl, ?_⟩
          refine ⟨fun _ _ _ => Rg.good_nil hre rfl rfl rfl, ?_⟩
          refine ⟨fun _ _ _ => Rg.good_field hre rfl rfl rfl (fun wx hC => by go_simp), ?_⟩
          refine ⟨fun _ _ _ => Rg.good_load hre rfl rfl rfl (fun wx hC => by have hw := hC (by decide); subst hw; go_simp), ?_⟩
          refine ⟨fun h => absurd rfl h, ?_⟩
          refine ⟨fun _ _ _ => Rg.good_move hre rfl rfl rfl, ?_⟩
          refine ⟨fun _ _ _ => Rg.good_extract hre rfl rfl rfl rfl, ?_⟩
          refine ⟨fun _ _ _ => Rg.good_extract hre rfl rfl rfl rfl, ?_⟩
          refine ⟨fun _ _ _ => Rg.good_extract hre rfl rfl rfl rfl, ?_⟩
          refine ⟨fun _ _ _ => Rg.good_assign hre rfl rfl rfl, ?_⟩
          refine ⟨fun _ _ _ => Rg.good_nil hre rfl rfl rfl, ?_⟩
          refine ⟨fun _ _ _ => Rg.good_field hre rfl rfl rfl (fun wx hC => by go_simp), ?_⟩
          refine ⟨fun _ h => absurd rfl h, ?_⟩
          refine ⟨fun _ _ _ => Rg.good_nil hre rfl rfl rfl, ?_⟩
          refine ⟨fun _ _ _ => Rg.good_field hre rfl rfl rfl (fun wx hC => by go_simp), ?_⟩
          refine ⟨fun _ _ h => absurd rfl h, ?_⟩
          exact trivial
        case hF =>
          rintro w1 ⟨hR1, hg1⟩
          have HR1 : Hid (Rdr w1 g a cap b ⟨(k : Int), e⟩) := hR1
          have hgw : wr.grownBy w1 (some g) := grown_tr ((Ex.drew wr).grownBy _) hg1
          have HG1 : Hid (w.grownBy w1 (some g)) := grown_tr HG0.out hgw
          have HO1 : Hid (OwnC w1 w.heap.size (.slice a9 ol c9) o) := HO.out.grownO hgw hglt
          have hsz : w.heap.size ≤ w1.heap.size := HG1.out.size
          have hOL : o.length ≤ ol := Nat.le_of_eq HOL.out
          clear hR1 hg1 hgw
          simp only [Rg.later, Act.put, List.setIfInBounds_toArray, List.set_cons_succ, List.set_cons_zero]
          clear j0 j1 j2
          go_wp2_with (at_builtin; refine wpList_append_wide cc_len cc_one rfl (.tmp 37) (.tmp 40) 26 _ 48 rfl Tryz.underlying26 Tryz.info28 (by omega) rfl w.heap.size _ o rfl (OwnW.alloc HO1.out _) (some ⟨w1.heap.size, 0, none⟩) 1 1 [⟨[], 2, 0, V⟩] rfl rfl (RdW.laid cc_len w1 [⟨[], 2, 0, V⟩] (by simp)) (by simp [maxLen]; omega) (by simp; omega) (by simp; omega) ?_; intro v9 w9 ho9 hg9 _)
          obtain ⟨hR9, hG9⟩ := cell_step HR1.out HG1.out HO1.out hglt HB.out hg9
          have HR9 : Hid (Rdr w9 g a cap b ⟨(k : Int), e⟩) := hR9
          have HG9 : Hid (w.grownBy w9 (some g)) := hG9
          obtain ⟨a10, c10, hv10, hb10⟩ := ho9.rd cc_len
          have hlen : (o ++ [(⟨[], 2, 0, V⟩ : Ce)]).length = ol + 1 := by simp [HOL.out]
          rw [hlen] at hv10
          subst hv10
          have HO9 : Hid (OwnC w9 w.heap.size (.slice a10 (ol + 1) c10) (o ++ [Ck.tc V])) := ho9
          have HLen : Hid ((o ++ [Ck.tc V]).length = ol + 1) := hlen
          clear ho9 hg9 hR9 hG9 hb10 hlen
          go_wp2
          go_roundw
          case rel => exact ⟨f1, o ++ [Ck.tc V], ⟨(k : Int), e⟩, a10, c10, by rw [HLen.out]; omega, by rw [HLen.out], by rw [HLen.out]; exact HO9, HR9, HL1, HG9⟩
          case measure => simp [lenOf]; omega
      · rw [if_pos hy] at hL
        simp only [Prod.mk.injEq] at hL
        obtain ⟨rfl, hL2⟩ := hL
        have HL2 : Hid ((⟨at', y1⟩ : CS) = R2) := hL2
        have t2 : ((y1 : Int) == 0) = false := beq_eq_false_iff_ne.2 (by omega)
        clear hL2 HL hf1 hf0 hf
        go_wp2_with fail
        go_ret
        exact ⟨_, rfl, HO.out, by rw [← HL2.out]; exact HRd.out, HG0.out⟩
theorem rd_blk {α : Type} {enc : α → Value} {w : World} {a : Option Addr} {cap : Nat} {r : List α} (h : Rd enc w a cap r) : 0 < r.length → ∀ q off, a = some ⟨q, off, none⟩ → q < w.heap.size := by
  intro h0 q off e
  obtain ⟨q', off', e', hc⟩ := h.2.2.2 0 r[0] (List.getElem?_eq_getElem h0)
  rw [e] at e'
  simp only [Option.some.injEq, Addr.mk.injEq, and_true] at e'
  obtain ⟨rfl, rfl⟩ := e'
  exact World.block_lt_of_cell? w _ hc
set_option maxHeartbeats 8000000 in
set_option maxRecDepth 100000 in
theorem rdict_is (g : Nat) (a : Option Addr) (cap : Nat) (b : List UInt8) (s : CS) (w : World) (h : Rdr w g a cap b s) :
    Calls Tryz.prog 86 #[.pointer (some ⟨g, 0, none⟩)] w fun x w' => ∃ u, x = .returned u ∧ OwnC w' w.heap.size u ((Ck.ldict b s).1.map Ck.tc) ∧ Rdr w' g a cap b (Ck.ldict b s).2 ∧ w.grownBy w' (some g) := by
  obtain ⟨at', y⟩ := s
  have H : Hid (Rdr w g a cap b ⟨at', y⟩) := h
  have hglt : g < w.heap.size := h.1.lt
  have HB : Hid (0 < b.length → ∀ q off, a = some ⟨q, off, none⟩ → q < w.heap.size) := h.blk
  obtain ⟨i0, i1, i2⟩ := h.1.all
  simp only at i1 i2
  by_cases hy : y = 0
  · subst hy
    obtain ⟨⟨r, k, e⟩, hG⟩ : ∃ x, T.dec b at' = x := ⟨_, rfl⟩
    have HG : Hid (T.dec b at' = (r, k, e)) := hG
    have hr16 : r.length ≤ 16 := by
      have := T.dec_all hG
      by_cases he : e = 0
      · exact ((T.fits_iff r).1 (this.1 he).1).2.1
      · rw [(this.2.1 he).1]; simp
    have HP : Hid (Ck.ldict b ⟨at', 0⟩ = (r, ⟨(k : Int), e⟩)) := (by rw [Ck.ldict_0, hG] : Ck.ldict b ⟨at', 0⟩ = (r, ⟨(k : Int), e⟩))
    rw [HP.out]
    clear h hG
    go_enter Tryz.func86, Tryz.ntmps86
    go_wp2_with fail
    have hre : ∀ u : World, u = u := fun _ => rfl
    have HD : Hid (Rdr w.drew g a cap b ⟨at', 0⟩) := H.out.below (Ex.drew w)
    obtain ⟨j0, j1, j2⟩ := HD.out.1.all
    simp only at j1 j2
    refine Rg.Fr.wp_call2 10 18 21 (by decide) (by decide) (by decide) (fun a b => a.grownBy b (some g)) (fun w2 => Ex w.drew w2) (fun w2 => Rdr w2 g a cap b ⟨(k : Int), 0⟩ ∧ w.drew.grownBy w2 (some g)) (fun w2 => Rdr w2 g a cap b ⟨(k : Int), e⟩ ∧ w.drew.grownBy w2 (some g)) [5, 9] [.inl (Value.pointer (some ⟨g, 0, none⟩)), .inl (Value.pointer (some ⟨g, 0, none⟩)), .inl (Value.pointer (some ⟨g, 0, none⟩)), .inl (Value.pointer (some ⟨g, 0, none⟩)), .inl (Value.pointer (some ⟨g, 0, none⟩)), .inl (Value.slice a b.length cap), .inl (Value.pointer (some ⟨g, 0, none⟩)), .inl (Value.pointer (some ⟨g, 0, none⟩)), .inl (Value.pointer (some ⟨g, 1, none⟩)), .inl (Value.int .i64 at'), .inr (Is3 st r g k e), .inr (Is3 st r g k e), .inr (IsRdA st r g), .inl (Value.int .i64 (k : Int)), .inl (Value.int .i64 (e : Int)), .inr (IsRdA st r g), .inl (Value.pointer (some ⟨g, 0, none⟩)), .inl (Value.pointer (some ⟨g, 1, none⟩)), .inl undef, .inl (Value.pointer (some ⟨g, 0, none⟩)), .inl (Value.pointer (some ⟨g, 2, none⟩)), .inl undef] 44 (by kernel_rfl) rfl (by kernel_rfl) (by kernel_rfl) ?hst (fun w => World.grownBy.refl _ _) _ _ _ rfl rfl rfl (by kernel_rfl) (by kernel_rfl) (by kernel_rfl) rfl rfl _ _ _ _ _ Tryz.func112 (by kernel_rfl) rfl rfl ?rc ?rx ?ry ?hG ?hF
    case hst =>
      refine ⟨fun v w w2 h hg => h.far hg, ⟨fun v w w2 h hg => h.far hg, ⟨fun v w w2 h hg => h.far hg, ⟨fun v w w2 h hg => h.far hg, trivial⟩⟩⟩⟩
    case rc =>
      intro ρ ha
      have h1 : ρ (.tmp 18) = .slice a b.length cap := ha (.tmp 18) (by simp)
      have h2 : ρ (.tmp 22) = .int .i64 at' := ha (.tmp 22) (by simp)
      simp only [List.map_toArray, List.map_cons, List.map_nil, h1, h2]
      refine (sdecode_is a _ cap b at' _ rfl HD.out.2.1 r k e HG.out).mono ?_
      rintro x w2 ⟨v, hx, ⟨a2, c2, hv2, hr2⟩, hex⟩
      exact ⟨_, hx, ⟨v, rfl, a2, c2, hv2, hr2, rd_st_ne (HD.out.below hex).1 hr2⟩, hex.grownBy _, hex⟩
    case rx =>
      intro ρ w2 hx ha
      have h1 : ρ (.tmp 28) = .pointer (some ⟨g, 1, none⟩) := ha (.tmp 28) (by simp [Op.operands])
      have h2 : ρ (.tmp 25) = .int .i64 (k : Int) := ha (.tmp 25) (by simp [Op.operands])
      have HR := HD.out.below hx
      obtain ⟨l0, l1, l2⟩ := HR.1.all
      obtain ⟨m1, m2⟩ := HR.1.fro
      simp only at l1 l2
      exact ⟨w2.setCell ⟨g, 1, none⟩ (.int .i64 (k : Int)), by simp [execOp, h1, h2, go_sem, l1, m1], grown_set1 _ _ _ _, HR.to (HR.1.set1 (k : Int)) (grown_set1 _ _ _ _), grown_tr (hx.grownBy _) (grown_set1 _ _ _ _)⟩
    case ry =>
      intro ρ w2 hx ha
      have h1 : ρ (.tmp 30) = .pointer (some ⟨g, 2, none⟩) := ha (.tmp 30) (by simp [Op.operands])
      have h2 : ρ (.tmp 26) = .int .i64 (e : Int) := ha (.tmp 26) (by simp [Op.operands])
      obtain ⟨l0, l1, l2⟩ := hx.1.1.all
      obtain ⟨m1, m2⟩ := hx.1.1.fro
      simp only at l1 l2
      exact ⟨w2.setCell ⟨g, 2, none⟩ (.int .i64 (e : Int)), by simp [execOp, h1, h2, go_sem, l2, m2], grown_set1 _ _ _ _, hx.1.to (hx.1.1.set2 e) (grown_set1 _ _ _ _), grown_tr hx.2 (grown_set1 _ _ _ _)⟩
    case hG =>
      refine ⟨fun _ _ _ => Rg.good_move hre rfl rfl rfl, ?_⟩
      refine ⟨fun _ _ _ => Rg.good_move hre rfl rfl rfl, ?_⟩
      refine ⟨fun _ _ _ => Rg.good_move hre rfl rfl rfl, ?_⟩
      refine ⟨fun _ _ _ => Rg.good_nil hre rfl rfl rfl, ?_⟩
      refine ⟨fun _ _ _ => Rg.good_field hre rfl rfl rfl (fun wx hC => by go_simp), ?_⟩
      refine ⟨fun _ _ _ => Rg.good_load hre rfl rfl rfl (fun wx hC => by have hw := hC (by decide); subst hw; go_simp), ?_⟩
      refine ⟨fun _ _ _ => Rg.good_move hre rfl rfl rfl, ?_⟩
      refine ⟨fun _ _ _ => Rg.good_nil hre rfl rfl rfl, ?_⟩
      refine ⟨fun _ _ _ => Rg.good_field hre rfl rfl rfl (fun wx hC => by go_simp), ?_⟩
      refine ⟨fun _ _ _ => Rg.good_load hre rfl rfl rfl (fun wx hC => by have hw := hC (by decide); subst hw; go_simp), ?_⟩
      refine ⟨fun h => absurd rfl h, ?_⟩
      refine ⟨fun _ _ _ => Rg.good_move hre rfl rfl rfl, ?_⟩
      refine ⟨fun _ _ _ => Rg.good_extractP hre rfl rfl rfl Is3.at0, ?_⟩
      refine ⟨fun _ _ _ => Rg.good_extractP hre rfl rfl rfl Is3.at1, ?_⟩
      refine ⟨fun _ _ _ => Rg.good_extractP hre rfl rfl rfl Is3.at2, ?_⟩
      refine ⟨fun _ _ _ => Rg.good_assign hre rfl rfl rfl, ?_⟩
      refine ⟨fun _ _ _ => Rg.good_nil hre rfl rfl rfl, ?_⟩
      refine ⟨fun _ _ _ => Rg.good_field hre rfl rfl rfl (fun wx hC => by go_simp), ?_⟩
      refine ⟨fun _ h => absurd rfl h, ?_⟩
      refine ⟨fun _ _ _ => Rg.good_nil hre rfl rfl rfl, ?_⟩
      refine ⟨fun _ _ _ => Rg.good_field hre rfl rfl rfl (fun wx hC => by go_simp), ?_⟩
      refine ⟨fun _ _ h => absurd rfl h, ?_⟩
      exact trivial
    case hF =>
      rintro w2 ⟨hR2, hg2⟩
      have HR2 : Hid (Rdr w2 g a cap b ⟨(k : Int), e⟩) := hR2
      have HG2 : Hid (w.grownBy w2 (some g)) := (grown_tr ((Ex.drew w).grownBy _) hg2 : World.grownBy _ _ _)
      clear hR2 hg2
      simp only [Rg.later, Act.put, List.setIfInBounds_toArray, List.set_cons_succ, List.set_cons_zero]
      intro v1 h1 v2 h2 v3 h3 v4 h4
      obtain ⟨a4, c4, rfl, hr4, _⟩ := h4
      have HV : Hid (Rd st w2 a4 c4 r) := hr4
      have HQ : Hid (0 < r.length → ∀ q off, a4 = some ⟨q, off, none⟩ → q < w2.heap.size) := rd_blk hr4
      have hs2 : w.heap.size ≤ w2.heap.size := HG2.out.size
      clear j0 j1 j2 h1 h2 h3 hr4
      obtain ⟨rl, hrl⟩ : ∃ rl, r.length = rl := ⟨_, rfl⟩
      have HRL : Hid (r.length = rl) := hrl
      rw [hrl] at hr16 ⊢
      clear hrl
      go_wp2_with fail
      go_loopw [4, 6, 33] (fun ov sv iv wr => ∃ (i : Nat) (a9 : Option Addr) (c9 : Nat), i ≤ rl ∧ iv = .int .i64 (i : Int) ∧ ov = .slice a9 i c9 ∧ Hid (OwnC wr w2.heap.size (.slice a9 i c9) ((r.take i).map Ck.tc)) ∧ Hid (Rdr wr g a cap b ⟨(k : Int), e⟩) ∧ Hid (w.grownBy wr (some g)) ∧ Hid (Rd st wr a4 c4 r) ∧ w2.heap.size ≤ wr.heap.size) (fun ov sv iv wr => rl - (intOf iv).toNat)
      case atStart => exact ⟨0, none, 0, by omega, rfl, rfl, ownW_none _ _, HR2, HG2, HV, Nat.le_refl _⟩
      case round =>
        obtain ⟨i, a9, c9, hi, rfl, rfl, HO, HRd, HGr, HRr, hsz⟩ := hrel
        clear HR2 HG2 HV
        by_cases hlt : i < rl
        · have ti : (i : Int) < (rl : Int) := by omega
          have hlt2 : i < r.length := by rw [HRL.out]; exact hlt
          obtain ⟨bq, off, rfl, hc⟩ := HRr.out.at hlt2
          obtain ⟨V, hV⟩ : ∃ V, V = r[i] := ⟨_, rfl⟩
          rw [← hV] at hc
          have hc' : wr.cell? ⟨bq, off + i, none⟩ = some (.string (str V)) := hc
          have hsnoc : (r.take (i + 1)).map Ck.tc = (r.take i).map Ck.tc ++ [Ck.tc V] := by rw [take_snoc hlt2, List.map_append, hV]; rfl
          have HS : Hid ((r.take (i + 1)).map Ck.tc = (r.take i).map Ck.tc ++ [Ck.tc V]) := hsnoc
          have hol : ((r.take i).map Ck.tc).length ≤ i := by simp; omega
          clear hc hV hsnoc
          go_wp2_with (at_builtin; refine wpList_append_wide cc_len cc_one rfl (.tmp 37) (.tmp 40) 26 _ 48 rfl Tryz.underlying26 Tryz.info28 (by omega) rfl w2.heap.size _ ((r.take i).map Ck.tc) rfl (OwnW.alloc HO.out _) (some ⟨wr.heap.size, 0, none⟩) 1 1 [⟨[], 2, 0, V⟩] rfl rfl (RdW.laid cc_len wr [⟨[], 2, 0, V⟩] (by simp)) (by simp [maxLen]; omega) (by simp; omega) (by simp; omega) ?_; intro v9 w9 ho9 hg9 _)
          obtain ⟨hR9, hG9⟩ := cell_step HRd.out HGr.out (OwnW.mono HO.out hs2) hglt HB.out hg9
          have HR9 : Hid (Rdr w9 g a cap b ⟨(k : Int), e⟩) := hR9
          have HG9 : Hid (w.grownBy w9 (some g)) := hG9
          have hrr : Rd st w9 (some ⟨bq, off, none⟩) c4 r := by
            have h0 : Rd st (wr.alloc (.cells #[.string { data := #[] }, .int .i64 2, .int .i64 0, .string (str V)] 28)) (some ⟨bq, off, none⟩) c4 r := HRr.out.below ((Below.refl _ _).alloc (Nat.le_refl _) _)
            refine rd_far h0 hg9 (fun h1 q o2 e1 e2 => ?_)
            have hx := (HO.out.lt q e2).1
            have hy := HQ.out h1 q o2 e1
            omega
          have HRr9 : Hid (Rd st w9 (some ⟨bq, off, none⟩) c4 r) := hrr
          have hs9 : w2.heap.size ≤ w9.heap.size := by have := hg9.size; simp at this; omega
          have ho9' : OwnC w9 w2.heap.size v9 ((r.take (i + 1)).map Ck.tc) := by rw [HS.out]; exact ho9
          obtain ⟨a10, c10, hv10, hb10⟩ := ho9'.rd cc_len
          have hlen : ((r.take (i + 1)).map Ck.tc).length = i + 1 := by rw [List.length_map, List.length_take]; omega
          rw [hlen] at hv10
          subst hv10
          have HO9 : Hid (OwnC w9 w2.heap.size (.slice a10 (i + 1) c10) ((r.take (i + 1)).map Ck.tc)) := ho9'
          clear ho9 ho9' hg9 hR9 hG9 hb10 hlen hrr
          go_wp2
          go_roundw
          case rel => exact ⟨i + 1, a10, c10, by omega, by go_num, rfl, HO9, HR9, HG9, HRr9, hs9⟩
          case measure => simp [intOf]; omega
        · have ti : ¬ (i : Int) < (rl : Int) := by omega
          have hil : i = rl := by omega
          have hfull : (r.take i).map Ck.tc = r.map Ck.tc := by rw [List.take_of_length_le (by rw [HRL.out]; omega)]
          have ho := HO.out
          rw [hfull] at ho
          have HO2 : Hid (OwnC wr w.heap.size (.slice a9 i c9) (r.map Ck.tc)) := OwnW.mono ho hs2
          clear ho hfull hil
          go_wp2_with fail
          go_ret
          exact ⟨_, rfl, HO2.out, HRd.out, HGr.out⟩
  · have t1 : ((y : Int) == 0) = false := beq_eq_false_iff_ne.2 (by omega)
    have t2 : ((y : Int) != 0) = true := by simp [bne, t1]
    have HP : Hid (Ck.ldict b ⟨at', y⟩ = ([], ⟨at', y⟩)) := Ck.ldict_y hy
    rw [HP.out]
    clear h
    go_enter Tryz.func86, Tryz.ntmps86
    go_wp2_with fail
    go_ret
    exact ⟨_, rfl, ownW_none _ _, H.out, World.grownBy.refl _ _⟩
end Go.Proofs.YtnmonoafjijfhaaGreat
