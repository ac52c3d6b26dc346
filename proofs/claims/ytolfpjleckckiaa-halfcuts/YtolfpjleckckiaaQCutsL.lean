/-
  The walk of the law HalfCuts. (Written by tools/gen_qcuts.py.)
-/
import Derived.Test.YtolfpjleckckiaaQEndsL
import Derived.Test.YtolfpjleckckiaaContAll
import Derived.Deep.RegionHeld3
import Derived.Deep.RegionLaw
namespace Go.Proofs.Ytolfpjleckckiaa
open Go.RowKit Go.Maps

theorem qcell_lt {w : World} {a : Addr} {v : Value} (h : w.cell? a = some v) : a.block < w.heap.size := by
  rcases Nat.lt_or_ge a.block w.heap.size with h1 | h1
  · exact h1
  · simp [World.cell?, Array.getElem?_eq_none h1] at h
theorem qck {w : World} {a : Addr} {v : Value} (h : w.cell? a = some v) (o : Obj) : (w.alloc o).cell? a = some v := (((Below.refl w.heap.size w).alloc (Nat.le_refl _) o).cell (qcell_lt h)).trans h
/-- append of two ops, as one step of a region -/
theorem step_two {P : Program} {w : World} {ops : Array Oper} {o : Oper} {a : Act} {K : Act → World → Prop} {Q : Exit → Act → World → Prop} {E : Prop} (hgd : o.guard = none) (s x : Operand) (T : TypeId)
    (ho : o.op = .call { callee := .builtin .append, args := #[s, x], argTypes := #[T, T] }) (e : TypeId) (hu : P.underlying T = some (.slice e)) (hi : (P.info? e).map (fun i => (i.zero, i.size, i.bytes)) = some (some (.agg #[I 0, I 0, I 0]), 3, 24))
    (base : Nat) (v : Value) (n : Nat) (xs : List Value) (sp : Addr) (news : List Value) (hs : a.eval s = v) (hsx : a.eval x = .slice (some sp) 2 2) (hown : w.ownsRow base e 3 v n xs) (hl : news.length = 6) (hc : ∀ j u, news[j]? = some u → w.cell? (sp.add j) = some u) (h1 : ∀ u ∈ news, u.oneCell' = true) (hbound : n ≤ 1000000) (hbase : base ≤ w.heap.size)
    (h : ∀ v' w', w'.ownsRow base e 3 v' (n + 2) (xs ++ news) → w.grownBy w' v.ownBlock → K (a.put o.dst v') w') :
    if Region.wanted o (yielded ops a.tmps) = true then Oper.wp P o a w K Q else E := by
  have hw : Region.wanted o (yielded ops a.tmps) = true := by simp [Region.wanted, hgd]
  rw [if_pos hw]
  obtain ⟨i, e1, e2, e3, e4⟩ := info_parts hi
  obtain ⟨v', w', hrun, h2, h3, _, _⟩ := run_append_own_at (P := P) w base T o.type e i _ 3 24 hu e1 e2 e3 e4 rfl (by decide) v n xs hown sp 2 2 news hl hc h1 (by unfold maxLen; omega) (by omega) hbase
  unfold Oper.wp execOp
  simp only [ho, resolve, invoke, builtin, Sem.run_bind, Sem.run_pure, Result.andThen_ok, List.map_toArray, List.map_cons, List.map_nil, hs, hsx, hrun]
  exact h v' w' h2 h3
/-- two ops as a block -/
abbrev twoO (a b c d : Int) : Obj := .cells #[I a, I b, I 0, I c, I d, I 0] 39
theorem two_new (w : World) (a b c d : Int) : ∀ j u, [I a, I b, I 0, I c, I d, I 0][j]? = some u → (w.alloc (twoO a b c d)).cell? ((⟨w.heap.size, 0, none⟩ : Addr).add j) = some u := by
  intro j u hu
  rw [addn, Nat.zero_add]
  have := heap_alloc_new w (twoO a b c d)
  rw [cell_of_row _ _ _ _ _ _ this]
  simpa using hu
theorem two_one (a b c d : Int) : ∀ u ∈ [I a, I b, I 0, I c, I d, I 0], u.oneCell' = true := by
  intro u hu
  simp at hu
  rcases hu with rfl | rfl | rfl | rfl | rfl | rfl <;> rfl
theorem two_keep {w w' : World} {sp : Addr} {news : List Value} (hc : ∀ j u, news[j]? = some u → w.cell? (sp.add j) = some u) (hb : Below w.heap.size w w') : ∀ j u, news[j]? = some u → w'.cell? (sp.add j) = some u := fun j u hu => (hb.cell (qcell_lt (hc j u hu))).trans (hc j u hu)
theorem own_two {w : World} {base n : Nat} {v : Value} {ops : List OP} {a b c d : Int} (hl : ops.length = n) (h : w.ownsRow base 39 3 v (n + 2) (flatO ops ++ [I a, I b, I 0, I c, I d, I 0])) : ∃ A c', v = .slice A (n + 2) c' ∧ OS w A (n + 2) c' (ops ++ [(a, b, 0), (c, d, 0)]) := by
  have h2 : OwnO w base v (ops ++ [(a, b, 0), (c, d, 0)]) := by
    unfold OwnO
    rw [List.length_append, flatO_append, hl]
    exact h
  obtain ⟨A, c', e, hos⟩ := h2.os
  have hl2 : (ops ++ [(a, b, 0), (c, d, 0)]).length = n + 2 := by rw [List.length_append, hl]; rfl
  rw [hl2] at e hos
  exact ⟨A, c', e, hos⟩

/-- put, and taken away: what is told and what is left -/
theorem two_cut (ops : List OP) {key : Int} (h0 : 0 ≤ key) (h1 : key ≤ 65535) : (key ∉ (hR ops).1 → (hR (ops ++ [(1, key, 0), (3, key, 0)])).1 = (hR ops).1) ∧ (hR (ops ++ [(1, key, 0), (3, key, 0)])).2 = (hR ops).2 ++ [⟨0, 0, 0, decide (key ∈ (hR ops).1)⟩, ⟨0, 0, 0, true⟩] := by
  have hu := hR_up ops
  rw [hR_is] at hu ⊢
  rw [hR_is, hK_app, hAs_app]
  refine ⟨fun hk => (cut_after hu h0 h1 hk).1, ?_⟩
  show hAs [] ops ++ hAs (hK [] ops) [(1, key, 0), (3, key, 0)] = hAs [] ops ++ [⟨0, 0, 0, decide (key ∈ hK [] ops)⟩, ⟨0, 0, 0, true⟩]
  congr 1
  have o1 : hok (1, key, 0) := ⟨by simp, by simp, h0, h1⟩
  have e1 : hL (hK [] ops) (1, key, 0) = qins key (hK [] ops) := by unfold hL; rw [if_pos o1, if_pos rfl]
  have a : ∀ (m : List Int) (q : Int), (q = 1 ∨ q = 3) → hA m (q, key, 0) = ⟨0, 0, 0, decide (key ∈ m)⟩ := fun m q hq => by
    unfold hA
    rw [if_neg (by simp; omega), if_neg (by simp; omega), if_neg (by simp; omega), if_neg (by simp; omega)]
  show [hA (hK [] ops) (1, key, 0), hA (hL (hK [] ops) (1, key, 0)) (3, key, 0)] = _
  rw [a _ _ (.inl rfl), a _ _ (.inr rfl), e1, decide_eq_true (mem_qins.2 (.inl rfl) : key ∈ qins key (hK [] ops))]
theorem two_put (ops : List OP) {key : Int} (h0 : 0 ≤ key) (h1 : key ≤ 65535) : (hR (ops ++ [(1, key, 0), (1, key, 0)])).1 = qins key (hR ops).1 ∧ (hR (ops ++ [(1, key, 0), (1, key, 0)])).2 = (hR ops).2 ++ [⟨0, 0, 0, decide (key ∈ (hR ops).1)⟩, ⟨0, 0, 0, true⟩] := by
  have hu := hR_up ops
  rw [hR_is] at hu ⊢
  rw [hR_is, hK_app, hAs_app]
  obtain ⟨p1, p2⟩ := put_twice hu h0 h1
  exact ⟨p1, by rw [← p2]⟩
/-- the last two answers -/
theorem last_two {w : World} {A : Option Addr} {n c : Nat} {aa : List An} {x y : An} (h : AS w A (n + 2) c (aa ++ [x, y])) (hl : aa.length = n) : ∃ b off, A = some ⟨b, off, none⟩ ∧ b < w.heap.size ∧ w.cell? ⟨b, off + n * 4 + 3, none⟩ = some (.bool x.b) ∧ w.cell? ⟨b, off + (n + 1) * 4 + 3, none⟩ = some (.bool y.b) := by
  obtain ⟨b, off, e, hb, hc⟩ := h.at_ (by omega)
  have h1 := (hc n (by omega)).2.2.2
  have h2 := (hc (n + 1) (by omega)).2.2.2
  refine ⟨b, off, e, hb, ?_, ?_⟩
  · have e1 : (aa ++ [x, y])[n]'(by rw [List.length_append, hl]; simp) = x := by
      rw [List.getElem_append_right (by omega)]
      simp [hl]
    rw [e1] at h1
    rw [show off + n * 4 + 3 = off + (n * 4 + 3) by omega]
    exact h1
  · have e1 : (aa ++ [x, y])[n + 1]'(by rw [List.length_append, hl]; simp) = y := by
      rw [List.getElem_append_right (by omega)]
      simp [hl]
    rw [e1] at h2
    rw [show off + (n + 1) * 4 + 3 = off + ((n + 1) * 4 + 3) by omega]
    exact h2

set_option maxRecDepth 100000 in
set_option maxHeartbeats 4000000 in
theorem qcuts_bad (A : Option Addr) (n c : Nat) (ops : List OP) (key : Int) (w : World) (h : OS w A n c ops) (hm : n ≤ 9223372036854775807) (hb : ¬ (n ≤ 298 ∧ 0 ≤ key ∧ key ≤ 65535)) :
    Calls Try.prog 6 #[.slice A n c, I key] w (YesQ w) := by
  by_cases hn : 300 < n
  · have HR := Lib.hid (QRun_large A n c w hn hm)
    clear h hb hm
    go_enter Try.func6, Try.ntmps6
    go_wp2_with fail
    refine HR.out.mono ?_
    rintro e w1 ⟨A1, n1, c1, A2, n2, c2, rfl, _, _, hb1⟩
    have HB1 := Lib.hid hb1
    clear hb1
    go_wp2_with fail
    refine (halfLives_any w1).mono ?_
    rintro e w2 ⟨rfl, hb2⟩
    have HB2 := Lib.hid (qon HB1.out hb2)
    clear hb2
    go_wp2_with fail
    refine (halfLives_any w2).mono ?_
    rintro e w3 ⟨rfl, hb3⟩
    have HB3 := Lib.hid (qon HB2.out hb3)
    clear hb3
    go_wp2
    go_ret
    exact ⟨rfl, HB3.out⟩
  · have HR := Lib.hid (QRun_any A n c ops w h (by omega))
    clear h hm
    by_cases g1 : 298 < n
    · clear hb
      go_enter Try.func6, Try.ntmps6
      go_wp2_with fail
      refine HR.out.mono ?_
      rintro e w1 ⟨A1, n1, c1, A2, n2, c2, rfl, _, _, hb1⟩
      have HB1 := Lib.hid hb1
      clear hb1
      go_wp2_with fail
      refine (halfLives_any w1).mono ?_
      rintro e w2 ⟨rfl, hb2⟩
      have HB2 := Lib.hid (qon HB1.out hb2)
      clear hb2
      go_wp2_with fail
      refine (halfLives_any w2).mono ?_
      rintro e w3 ⟨rfl, hb3⟩
      have HB3 := Lib.hid (qon HB2.out hb3)
      clear hb3
      go_wp2
      go_ret
      exact ⟨rfl, HB3.out⟩
    · by_cases g2 : key < 0
      · clear hb
        go_enter Try.func6, Try.ntmps6
        go_wp2_with fail
        refine HR.out.mono ?_
        rintro e w1 ⟨A1, n1, c1, A2, n2, c2, rfl, _, _, hb1⟩
        have HB1 := Lib.hid hb1
        clear hb1
        go_wp2_with fail
        refine (halfLives_any w1).mono ?_
        rintro e w2 ⟨rfl, hb2⟩
        have HB2 := Lib.hid (qon HB1.out hb2)
        clear hb2
        go_wp2_with fail
        refine (halfLives_any w2).mono ?_
        rintro e w3 ⟨rfl, hb3⟩
        have HB3 := Lib.hid (qon HB2.out hb3)
        clear hb3
        go_wp2
        go_ret
        exact ⟨rfl, HB3.out⟩
      · have g3 : 65535 < key := by omega
        clear hb
        go_enter Try.func6, Try.ntmps6
        go_wp2_with fail
        refine HR.out.mono ?_
        rintro e w1 ⟨A1, n1, c1, A2, n2, c2, rfl, _, _, hb1⟩
        have HB1 := Lib.hid hb1
        clear hb1
        go_wp2_with fail
        refine (halfLives_any w1).mono ?_
        rintro e w2 ⟨rfl, hb2⟩
        have HB2 := Lib.hid (qon HB1.out hb2)
        clear hb2
        go_wp2_with fail
        refine (halfLives_any w2).mono ?_
        rintro e w3 ⟨rfl, hb3⟩
        have HB3 := Lib.hid (qon HB2.out hb3)
        clear hb3
        go_wp2
        go_ret
        exact ⟨rfl, HB3.out⟩

set_option maxRecDepth 100000 in
set_option maxHeartbeats 8000000 in
theorem qcuts_ok (A : Option Addr) (n c : Nat) (ops : List OP) (key : Int) (w : World) (h : OS w A n c ops) (hn : n ≤ 298) (h0 : 0 ≤ key) (h1 : key ≤ 65535) :
    Calls Try.prog 6 #[.slice A n c, I key] w (YesQ w) := by
  have HR := Lib.hid (QRun_any A n c ops w h (by omega))
  have H := Lib.hid h
  have HL := Lib.hid h.len
  have HC := Lib.hid (two_cut ops h0 h1)
  have HP := Lib.hid (two_put ops h0 h1)
  have HAL : Hid ((hR ops).2.length = n) := by show _ = _; rw [hR_len, HL.out]
  have hle := hR_le ops
  rw [HL.out] at hle
  have HUP := Lib.hid (hR_up ops).1
  have HRC := Lib.hid (fun A' c' W (hW : OS W A' (n + 2) c' (ops ++ [(1, key, 0), (3, key, 0)])) => QRun_any A' (n + 2) c' _ W hW (by omega))
  have HRP := Lib.hid (fun A' c' W (hW : OS W A' (n + 2) c' (ops ++ [(1, key, 0), (1, key, 0)])) => QRun_any A' (n + 2) c' _ W hW (by omega))
  have HCL : Hid (∀ W : World, Below w.heap.size w W → Calls Try.prog 18 #[.slice A n c] W fun e w' => ∃ v, e = .returned v ∧ OwnO w' W.heap.size v ops ∧ Below W.heap.size W w') := fun W hW => cloneO_any A n c ops W (H.out.below hW) (by omega)
  obtain ⟨la, hla⟩ : ∃ la, (hR ops).1 = la := ⟨_, rfl⟩
  obtain ⟨aa, haa⟩ : ∃ aa, (hR ops).2 = aa := ⟨_, rfl⟩
  rw [hla, haa] at HR HC HP
  rw [haa] at HAL
  rw [hla] at HUP hle
  clear h hla haa
  go_enter Try.func6, Try.ntmps6
  go_wp2_with fail
  refine HR.out.mono ?_
  rintro e w1 ⟨A1, n1, c1, A2, n2, c2, rfl, his, has, hb1⟩
  have hn1 : n1 ≤ 298 := by have := his.len; omega
  have HB1 := Lib.hid hb1
  have HI1 := Lib.hid his
  clear hb1 his has HR
  go_wp2_with fail
  refine (halfLives_any w1).mono ?_
  rintro e w2 ⟨rfl, hb2⟩
  have HB2 := Lib.hid (qon HB1.out hb2)
  have HI2 := Lib.hid (HI1.out.below hb2)
  clear hb2 HI1
  go_wp2
  obtain ⟨W, hW⟩ : ∃ W, w2.alloc (.cells #[I 1, I key, I 0] 39) = W := ⟨_, rfl⟩
  have hw : W.heap[w2.heap.size]? = some (.cells #[I 1, I key, I 0] 39 (0, 0)) := by rw [← hW]; exact heap_alloc_new w2 _
  have c0 : W.cell? ⟨w2.heap.size, 0, none⟩ = some (I 1) := by simp [World.cell?, hw]
  have c1' : W.cell? ⟨w2.heap.size, 1, none⟩ = some (I key) := by simp [World.cell?, hw]
  have c2' : W.cell? ⟨w2.heap.size, 2, none⟩ = some (I 0) := by simp [World.cell?, hw]
  have hbx : Below w2.heap.size w2 W := by rw [← hW]; exact (Below.refl _ _).alloc (Nat.le_refl _) _
  have HBW := Lib.hid (qon HB2.out hbx)
  have HIW := Lib.hid (HI2.out.below hbx)
  have hgW : w2.heap.size < W.heap.size := by rw [← hW]; simp
  have hW' : w2.alloc (.cells #[.int .i64 1, .int .i64 key, .int .i64 0] 39) = W := hW
  rw [hW']
  generalize w2.heap.size = g at c0 c1' c2' hgW ⊢
  clear hW hW' hw hbx HI2

  go_region_held3 (fun V => V.cell? ⟨g, 0, none⟩ = some (I 1) ∧ V.cell? ⟨g, 1, none⟩ = some (I key) ∧ V.cell? ⟨g, 2, none⟩ = some (I 0))
    (first
      | exact ⟨d0, d1, d2⟩
      | exact ⟨qck d0 _, qck d1 _, qck d2 _⟩
      | exact ⟨c0, c1', c2'⟩
      | exact ⟨qck c0 _, qck c1' _, qck c2' _⟩)
    (first
      | (go_at_call 18
         with_reducible refine (HCL.out _ (by first | exact HBW.out.drew | exact (HBW.out.alloc HBW.out.size _).drew)).mono ?_
         rintro e x2 ⟨v2, rfl, ho2, hb2⟩
         have hX2 : Below W.heap.size W x2 := by
           first
             | exact (Below.refl W.heap.size W).drew.trans hb2
             | exact ((Below.refl W.heap.size W).alloc (Nat.le_refl _) _).drew.trans (hb2.mono (by simp))
         have d0 : x2.cell? ⟨g, 0, none⟩ = some (I 1) := (hX2.cell (by exact hgW)).trans c0
         have d1 : x2.cell? ⟨g, 1, none⟩ = some (I key) := (hX2.cell (by exact hgW)).trans c1'
         have d2 : x2.cell? ⟨g, 2, none⟩ = some (I 0) := (hX2.cell (by exact hgW)).trans c2'
         have HO2 : Hid (x2.ownsRow W.heap.size 39 3 v2 n (flatO ops)) := by
           have : OwnO x2 W.heap.size v2 ops := own_mono1 ho2 (by simp)
           unfold OwnO at this
           rw [HL.out] at this
           exact this
         try (have HS2 : Hid (∀ j u, [I 1, I key, I 0, I 3, I key, I 0][j]? = some u → x2.cell? ((⟨W.heap.size, 0, none⟩ : Addr).add j) = some u) := two_keep (w := (W.alloc (twoO 1 key 3 key)).drew) (sp := ⟨W.heap.size, 0, none⟩) (fun j u hu => two_new W 1 key 3 key j u hu) hb2)
         have HX2 := Lib.hid hX2
         clear ho2 hb2 hX2)
      | (refine step_two rfl (.tmp 45) (.tmp 49) 22 rfl 39 Try.underlying22 op_info W.heap.size v2 n (flatO ops) ⟨W.heap.size, 0, none⟩ [I 1, I key, I 0, I 3, I key, I 0] rfl rfl HO2.out rfl HS2.out (two_one 1 key 3 key) (by omega) HX2.out.size ?_
         intro v4 x4 hown4 hgrow4
         have hX4 : Below W.heap.size W x4 := HX2.out.grown hgrow4 HX2.out.size (own_ge1 HO2.out)
         have d0 : x4.cell? ⟨g, 0, none⟩ = some (I 1) := (hX4.cell (by exact hgW)).trans c0
         have d1 : x4.cell? ⟨g, 1, none⟩ = some (I key) := (hX4.cell (by exact hgW)).trans c1'
         have d2 : x4.cell? ⟨g, 2, none⟩ = some (I 0) := (hX4.cell (by exact hgW)).trans c2'
         obtain ⟨A4, c4, rfl, hos4⟩ := own_two HL.out hown4
         have HO4 := Lib.hid hos4
         have HX4 := Lib.hid hX4
         clear hown4 hgrow4 hX4 hos4)
      | (refine step_two rfl (.tmp 45) (.tmp 49) 22 rfl 39 Try.underlying22 op_info W.heap.size v2 n (flatO ops) ⟨x2.heap.size, 0, none⟩ [I 1, I key, I 0, I 3, I key, I 0] rfl rfl (own_below HO2.out ((Below.refl _ _).alloc (Nat.le_refl _) _)) rfl (fun j u hu => two_new x2 1 key 3 key j u hu) (two_one 1 key 3 key) (by omega) (by have := HX2.out.size; simp; omega) ?_
         intro v4 x4 hown4 hgrow4
         have hX4 : Below W.heap.size W x4 := (HX2.out.alloc HX2.out.size _).grown hgrow4 (by have := HX2.out.size; simp; omega) (own_ge1 HO2.out)
         have d0 : x4.cell? ⟨g, 0, none⟩ = some (I 1) := (hX4.cell (by exact hgW)).trans c0
         have d1 : x4.cell? ⟨g, 1, none⟩ = some (I key) := (hX4.cell (by exact hgW)).trans c1'
         have d2 : x4.cell? ⟨g, 2, none⟩ = some (I 0) := (hX4.cell (by exact hgW)).trans c2'
         obtain ⟨A4, c4, rfl, hos4⟩ := own_two HL.out hown4
         have HO4 := Lib.hid hos4
         have HX4 := Lib.hid hX4
         clear hown4 hgrow4 hX4 hos4)
      | (go_at_call 8
         with_reducible refine (HRC.out _ _ _ HO4.out).mono ?_
         rintro e w5 ⟨A5, n5, c5, A6, n6, c6, rfl, his5, has5, hb5⟩
         have hX5 : Below W.heap.size W w5 := HX4.out.trans (hb5.mono HX4.out.size)
         have d0 : w5.cell? ⟨g, 0, none⟩ = some (I 1) := (hX5.cell (by exact hgW)).trans c0
         have d1 : w5.cell? ⟨g, 1, none⟩ = some (I key) := (hX5.cell (by exact hgW)).trans c1'
         have d2 : w5.cell? ⟨g, 2, none⟩ = some (I 0) := (hX5.cell (by exact hgW)).trans c2'
         have HI5 := Lib.hid his5
         have HA5 := Lib.hid has5
         have HX5 := Lib.hid hX5
         clear hb5 hX5 his5 has5)
      | fail)

  all_goals
    have hgW5 : g < w5.heap.size := Nat.lt_of_lt_of_le hgW HX5.out.size
    clear HO2 HO4 HX2 HX4
    try clear HS2
    have HBV := Lib.hid (HBW.out.trans (HX5.out.mono HBW.out.size))
    have HIV := Lib.hid (HIW.out.below HX5.out)

    have hN2 : n6 = n + 2 := by have := HA5.out.len; rw [HC.out.2, List.length_append, HAL.out] at this; exact this.symm
    have HN2 := Lib.hid hN2
    have hn6 : n6 ≤ 300 := by omega
    obtain ⟨N2, hNN⟩ : ∃ N2, n6 = N2 := ⟨_, rfl⟩
    obtain ⟨A7, hA7⟩ : ∃ A7, A5 = A7 := ⟨_, rfl⟩
    obtain ⟨A8, hA8⟩ : ∃ A8, A6 = A8 := ⟨_, rfl⟩
    obtain ⟨m5, hm5⟩ : ∃ m5, n5 = m5 := ⟨_, rfl⟩
    obtain ⟨q5, hq5⟩ : ∃ q5, c5 = q5 := ⟨_, rfl⟩
    obtain ⟨q6, hq6⟩ : ∃ q6, c6 = q6 := ⟨_, rfl⟩
    rw [hA7, hm5, hq5] at HI5
    rw [hA8, hNN, hq6] at HA5
    rw [hNN] at HN2 hn6
    rw [hA7, hm5, hq5, hA8, hNN, hq6]
    have HM := HI5
    have HN := HA5
    clear HBW HIW hA7 hA8 hm5 hq5 hq6 hNN hN2 HI5 HA5 HRC
    have HBW := HBV
    have c0 := d0
    have c1' := d1
    have c2' := d2
    have hgW := hgW5
    clear HX5 HBV d0 d1 d2 hgW5
    go_wp2

    go_region_held3 (fun V => V.cell? ⟨g, 0, none⟩ = some (I 1) ∧ V.cell? ⟨g, 1, none⟩ = some (I key) ∧ V.cell? ⟨g, 2, none⟩ = some (I 0))
      (first
        | exact ⟨d0, d1, d2⟩
        | exact ⟨qck d0 _, qck d1 _, qck d2 _⟩
        | exact ⟨c0, c1', c2'⟩
        | exact ⟨qck c0 _, qck c1' _, qck c2' _⟩)
      (first
        | (go_at_call 18
           with_reducible refine (HCL.out _ (by first | exact HBW.out.drew | exact (HBW.out.alloc HBW.out.size _).drew)).mono ?_
           rintro e x2 ⟨v2, rfl, ho2, hb2⟩
           have hX2 : Below w5.heap.size w5 x2 := by
             first
               | exact (Below.refl w5.heap.size w5).drew.trans hb2
               | exact ((Below.refl w5.heap.size w5).alloc (Nat.le_refl _) _).drew.trans (hb2.mono (by simp))
           have d0 : x2.cell? ⟨g, 0, none⟩ = some (I 1) := (hX2.cell (by exact hgW)).trans c0
           have d1 : x2.cell? ⟨g, 1, none⟩ = some (I key) := (hX2.cell (by exact hgW)).trans c1'
           have d2 : x2.cell? ⟨g, 2, none⟩ = some (I 0) := (hX2.cell (by exact hgW)).trans c2'
           have HO2 : Hid (x2.ownsRow w5.heap.size 39 3 v2 n (flatO ops)) := by
             have : OwnO x2 w5.heap.size v2 ops := own_mono1 ho2 (by simp)
             unfold OwnO at this
             rw [HL.out] at this
             exact this
           try (have HS2 : Hid (∀ j u, [I 1, I key, I 0, I 1, I key, I 0][j]? = some u → x2.cell? ((⟨w5.heap.size, 0, none⟩ : Addr).add j) = some u) := two_keep (w := (w5.alloc (twoO 1 key 1 key)).drew) (sp := ⟨w5.heap.size, 0, none⟩) (fun j u hu => two_new w5 1 key 1 key j u hu) hb2)
           have HX2 := Lib.hid hX2
           clear ho2 hb2 hX2)
        | (refine step_two rfl (.tmp 57) (.tmp 60) 22 rfl 39 Try.underlying22 op_info w5.heap.size v2 n (flatO ops) ⟨w5.heap.size, 0, none⟩ [I 1, I key, I 0, I 1, I key, I 0] rfl rfl HO2.out rfl HS2.out (two_one 1 key 1 key) (by omega) HX2.out.size ?_
           intro v4 x4 hown4 hgrow4
           have hX4 : Below w5.heap.size w5 x4 := HX2.out.grown hgrow4 HX2.out.size (own_ge1 HO2.out)
           have d0 : x4.cell? ⟨g, 0, none⟩ = some (I 1) := (hX4.cell (by exact hgW)).trans c0
           have d1 : x4.cell? ⟨g, 1, none⟩ = some (I key) := (hX4.cell (by exact hgW)).trans c1'
           have d2 : x4.cell? ⟨g, 2, none⟩ = some (I 0) := (hX4.cell (by exact hgW)).trans c2'
           obtain ⟨A4, c4, rfl, hos4⟩ := own_two HL.out hown4
           have HO4 := Lib.hid hos4
           have HX4 := Lib.hid hX4
           clear hown4 hgrow4 hX4 hos4)
        | (refine step_two rfl (.tmp 57) (.tmp 60) 22 rfl 39 Try.underlying22 op_info w5.heap.size v2 n (flatO ops) ⟨x2.heap.size, 0, none⟩ [I 1, I key, I 0, I 1, I key, I 0] rfl rfl (own_below HO2.out ((Below.refl _ _).alloc (Nat.le_refl _) _)) rfl (fun j u hu => two_new x2 1 key 1 key j u hu) (two_one 1 key 1 key) (by omega) (by have := HX2.out.size; simp; omega) ?_
           intro v4 x4 hown4 hgrow4
           have hX4 : Below w5.heap.size w5 x4 := (HX2.out.alloc HX2.out.size _).grown hgrow4 (by have := HX2.out.size; simp; omega) (own_ge1 HO2.out)
           have d0 : x4.cell? ⟨g, 0, none⟩ = some (I 1) := (hX4.cell (by exact hgW)).trans c0
           have d1 : x4.cell? ⟨g, 1, none⟩ = some (I key) := (hX4.cell (by exact hgW)).trans c1'
           have d2 : x4.cell? ⟨g, 2, none⟩ = some (I 0) := (hX4.cell (by exact hgW)).trans c2'
           obtain ⟨A4, c4, rfl, hos4⟩ := own_two HL.out hown4
           have HO4 := Lib.hid hos4
           have HX4 := Lib.hid hX4
           clear hown4 hgrow4 hX4 hos4)
        | (go_at_call 8
           with_reducible refine (HRP.out _ _ _ HO4.out).mono ?_
           rintro e w7 ⟨A5, n5, c5, A6, n6, c6, rfl, his5, has5, hb5⟩
           have hX5 : Below w5.heap.size w5 w7 := HX4.out.trans (hb5.mono HX4.out.size)
           have d0 : w7.cell? ⟨g, 0, none⟩ = some (I 1) := (hX5.cell (by exact hgW)).trans c0
           have d1 : w7.cell? ⟨g, 1, none⟩ = some (I key) := (hX5.cell (by exact hgW)).trans c1'
           have d2 : w7.cell? ⟨g, 2, none⟩ = some (I 0) := (hX5.cell (by exact hgW)).trans c2'
           have HI5 := Lib.hid his5
           have HA5 := Lib.hid has5
           have HX5 := Lib.hid hX5
           clear hb5 hX5 his5 has5)
        | fail)

  all_goals

    have hN3 : n6 = N2 := by have := HA5.out.len; rw [HP.out.2, List.length_append, HAL.out] at this; rw [HN2.out]; exact this.symm
    subst hN3
    have HB7 := Lib.hid (HBW.out.trans (HX5.out.mono HBW.out.size))
    have HI7 := Lib.hid (HIV.out.below HX5.out)
    have HM7 := Lib.hid (HM.out.below HX5.out)
    have HN7 := Lib.hid (HN.out.below HX5.out)
    clear HO2 HO4 HX2 HX4 HX5 HBW HIV HM HN HRP d0 d1 d2 c0 c1' c2'
    try clear HS2
    go_wp2_with fail
    refine (ok_any _ 2 2 [0, 0] _ (is_new w7 25 [0, 0]) (by omega) (by simp)).mono ?_
    rintro e w8 ⟨rfl, rfl⟩
    obtain ⟨w8, hw8⟩ : ∃ w8, w7.alloc (Obj.cells (List.map I [0, 0]).toArray 25) = w8 := ⟨_, rfl⟩
    have hbx : Below w7.heap.size w7 w8 := by rw [← hw8]; exact (Below.refl _ _).alloc (Nat.le_refl _) _
    rw [hw8]
    have HB8 := Lib.hid (qon HB7.out hbx)
    have HI8 := Lib.hid (HI7.out.below hbx)
    have HM8 := Lib.hid (HM7.out.below hbx)
    have hn8 := HN7.out.below hbx
    have ha8 := HA5.out.below hbx
    have HL8 := Lib.hid (HI5.out.below hbx)
    rw [HC.out.2, HN2.out] at hn8
    rw [HP.out.2, HN2.out] at ha8
    obtain ⟨bn, on, rfl, _, kn1, kn2⟩ := last_two hn8 HAL.out
    obtain ⟨ba, oa, rfl, _, _, ka2⟩ := last_two ha8 HAL.out
    clear hw8 hbx hn8 ha8 HI7 HM7 HN7 HA5 HI5
    obtain ⟨N1, hN1⟩ : ∃ N1, n + 1 = N1 := ⟨_, rfl⟩
    rw [hN1] at kn2 ka2
    have e1 : IntKind.i64.wrap ((n6 : Int) - 1) = (N1 : Int) := by have := HN2.out; rw [IntWalk.i64_in _ (by omega)]; omega
    have e2 : IntKind.i64.wrap ((n : Int) + 2) = (n6 : Int) := by have := HN2.out; rw [IntWalk.i64_in _ (by omega)]; omega
    have e3 : IntKind.i64.wrap ((n6 : Int) - 2) = (n : Int) := by have := HN2.out; rw [IntWalk.i64_in _ (by omega)]; omega
    have x1 : N1 < n6 := by have := HN2.out; omega
    have x2 : n < n6 := by have := HN2.out; omega
    have x3 : (N1 : Int) < (n6 : Int) := by omega
    have x4 : (n : Int) < (n6 : Int) := by omega
    have hl5 : n5 ≤ 300 := by have h1 := HL8.out.len; rw [HP.out.1] at h1; have h2 := qins_le (k := key) HUP.out; have h3 := HI8.out.len; omega
    clear hN1
    go_wp2_with fail
    refine (contains_hit A5 n5 c5 _ key w8 HL8.out (by omega) (by rw [HP.out.1]; exact mem_qins.2 (.inl rfl))).mono ?_
    rintro e w9 ⟨rfl, rfl⟩
    by_cases hk : key ∈ la
    · go_wp2_with fail
      refine (contains_hit A1 n1 c1 la key _ HI8.out (by omega) hk).mono ?_
      rintro e w9 ⟨rfl, rfl⟩
      go_wp2
      go_ret
      exact ⟨rfl, HB8.out⟩
    · have hkb : decide (key ∈ la) = false := by simpa using hk
      have kn1' := kn1
      simp only [hkb] at kn1'
      have hm8 := HM8.out
      rw [HC.out.1 hk] at hm8
      have hmn : m5 = n1 := by rw [← hm8.len]; exact HI8.out.len
      have HM9 := Lib.hid hm8
      have e4 : IntKind.i64.wrap ((n1 : Int) + 1) = (n5 : Int) := by
        have h1 := HL8.out.len
        rw [HP.out.1, qins_length hk, HI8.out.len] at h1
        rw [IntWalk.i64_in _ (by omega)]
        omega
      subst hmn
      clear kn1 hm8 HM8 hkb
      go_wp2_with fail
      refine (contains_miss A1 m5 c1 la key _ HI8.out (by omega) hk).mono ?_
      rintro e w9 ⟨rfl, rfl⟩
      go_wp2_with fail
      refine (eqInt_t A1 A7 m5 c1 q5 la _ HI8.out HM9.out (by omega)).mono ?_
      rintro e w10 ⟨rfl, hb10⟩
      have HB10 := Lib.hid (qon HB8.out hb10)
      have kn3 := (hb10.cell (qcell_lt kn1')).trans kn1'
      have kn4 := (hb10.cell (qcell_lt kn2)).trans kn2
      clear hb10 kn1' kn2 ka2
      go_wp2
      go_ret
      exact ⟨rfl, HB10.out⟩

theorem qcuts_any (A : Option Addr) (n c : Nat) (ops : List OP) (key : Int) (w : World) (h : OS w A n c ops) (hm : n ≤ 9223372036854775807) :
    Calls Try.prog 6 #[.slice A n c, I key] w (YesQ w) := by
  by_cases hb : n ≤ 298 ∧ 0 ≤ key ∧ key ≤ 65535
  · exact qcuts_ok A n c ops key w h hb.1 hb.2.1 hb.2.2
  · exact qcuts_bad A n c ops key w h hm hb

end Go.Proofs.Ytolfpjleckckiaa
