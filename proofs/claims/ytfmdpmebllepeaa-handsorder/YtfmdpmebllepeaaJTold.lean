/-
  package hands: told: what is told of all hands, one behind the other; what is left.
-/
import Derived.Test.YtfmdpmebllepeaaJLeft
namespace Go.Proofs.Ytfmdpmebllepeaa
open Go.RowKit

theorem flatD_one (l : List Dn) : ∀ u ∈ flatD l, u.oneCell' = true := by
  induction l with
  | nil => intro u hu; cases hu
  | cons d t ih =>
    intro u hu
    rcases List.mem_append.mp hu with h | h
    · simp only [dcells, List.mem_cons, List.not_mem_nil, or_false] at h
      rcases h with rfl | rfl | rfl | rfl | rfl <;> rfl
    · exact ih u h
/-- append, whatever the source: none of it, nil too -/
theorem run_appD (w : World) (ty : TypeId) (base : Nat) (v x : Value) (L X : List Dn) (hown : OwnD w base v L) {base2 : Nat} (hx : OwnD w base2 x X) (hbound : L.length + X.length ≤ 1000000) (hbase : base ≤ w.heap.size) :
    ∃ v' w', (Builtin.append_ #[24, 24] ty #[v, x]).run Try.prog w = .ok v' w' ∧ OwnD w' base v' (L ++ X) ∧ w.grownBy w' v.ownBlock ∧ (v'.ownBlock = v.ownBlock ∨ v'.ownBlock = some w.heap.size) := by
  obtain ⟨i, h1, hz, hs, hb⟩ := jinfo_parts done_info
  have hu := Try.underlying24
  rcases hx.2 with ⟨rfl, h0⟩ | ⟨g, cap, cur, rfl, hge, hg, hnc, _, hsz, htk⟩
  · have hX : X = [] := List.eq_nil_of_length_eq_zero h0
    subst hX
    refine ⟨v, w, ?_, by simpa using hown, World.grownBy.refl w _, .inl rfl⟩
    rcases hown.2 with ⟨rfl, h0⟩ | ⟨g, cap, cur, rfl, _, _, hnc, _⟩
    · simp [Builtin.append_, run_underlying hu, sizeOf, typeInfo, h1, Builtin.lenOf, Builtin.firstCells]
    · simp [Builtin.append_, run_underlying hu, sizeOf, typeInfo, h1, Builtin.lenOf, Builtin.firstCells, hnc, storeCells]
  · have hcells : ∀ j u, (flatD X)[j]? = some u → w.cell? ((⟨g, 0, none⟩ : Addr).add j) = some u := by
      intro j u hu'
      rw [show ((⟨g, 0, none⟩ : Addr).add j) = ⟨g, j, none⟩ by simp [Addr.add] <;> omega, jcell hg]
      rw [← htk, List.getElem?_take] at hu'
      split at hu'
      · simpa using hu'
      · cases hu'
    obtain ⟨v', w', hr, h2, h3, _, h4⟩ := run_append_own_at (P := Try.prog) w base 24 ty 37 i _ 5 40 hu h1 hz hs hb rfl (by decide) v L.length (flatD L) hown ⟨g, 0, none⟩ X.length cap (flatD X) (flatD_length X) hcells (flatD_one X) (by unfold maxLen; omega) (by omega) hbase
    refine ⟨v', w', hr, ?_, h3, h4⟩
    unfold OwnD
    rw [List.length_append, flatD_append]
    exact h2
theorem wpList_appD {w : World} {ops : Array Oper} {rest : List Oper} {o : Oper} {a : Act} {Q : Exit → Act → World → Prop} (hgd : o.guard = none) (s x : Operand)
    (ho : o.op = .call { callee := .builtin .append, args := #[s, x], argTypes := #[24, 24] })
    (base : Nat) (v y : Value) (L X : List Dn) (hs : a.eval s = v) (hsx : a.eval x = y) (hown : OwnD w base v L) {base2 : Nat} (hx : OwnD w base2 y X) (hbound : L.length + X.length ≤ 1000000) (hbase : base ≤ w.heap.size)
    (h : ∀ v' w', OwnD w' base v' (L ++ X) → w.grownBy w' v.ownBlock → (v'.ownBlock = v.ownBlock ∨ v'.ownBlock = some w.heap.size) → wpList Try.prog ops Q rest (a.put o.dst v') w') : wpList Try.prog ops Q (o :: rest) a w := by
  refine wpList_plain hgd fun K hK => ?_
  obtain ⟨v', w', hrun, h2, h3, h4⟩ := run_appD w o.type base v y L X hown hx hbound hbase
  unfold Oper.wp execOp
  simp only [ho, resolve, invoke, builtin, Sem.run_bind, Sem.run_pure, Result.andThen_ok, List.map_toArray, List.map_cons, List.map_nil, hs, hsx, hrun]
  exact hK _ _ (h v' w' h2 h3 h4)
theorem JH.one {w : World} {B nh : Nat} {hs : Nat → Nat → Value} (h : JH w B nh hs) {v i : Nat} (hv : v < nh) (hi : i < 9) : (hs v i).oneCell' = true := by
  obtain ⟨C, _, _, _, h4⟩ := h
  exact h4 v hv i hi
/-- all that is told, of the first n hands -/
def DLs (W : Wd) (n : Nat) : List Dn := (List.range n).flatMap (DL W)
theorem DLs_succ (W : Wd) (n : Nat) : DLs W (n + 1) = DLs W n ++ DL W n := by unfold DLs; rw [List.range_succ, List.flatMap_append]; simp
/-- what is told, in new memory -/
def RetTold (base : Nat) (D : List Dn) (L : List Int) (w : World) (e : Ending) (w' : World) : Prop := ∃ dv lv, e = .returned (.agg #[dv, lv]) ∧ OwnD w' base dv D ∧ OwnI w' base lv L ∧ Below base w w'
theorem OwnD.below {w w' : World} {base : Nat} {v : Value} {L : List Dn} (h : OwnD w base v L) (hb : Below w.heap.size w w') : OwnD w' base v L := own_below h hb
section
variable {al base B nh : Nat} {P : Nat → PL} {W : Wd} {ad : Nat → Nat} {hs : Nat → Nat → Value} {w : World}
theorem GS.blk (h : GS al base B nh P W ad hs w) {v : Nat} (hv : v < nh) : ∀ g, (hs v 2).ownBlock = some g → g < w.heap.size := fun g hg => by
  obtain ⟨cs, hc, _⟩ := (h.ho v hv).jv.done.blk hg
  exact jblk hc
set_option maxRecDepth 100000 in
set_option maxHeartbeats 4000000 in
theorem told_any {n : Nat} (h : GS al base B nh P W ad hs w) (h0 : 0 < W.s.sz) (h0t : 0 ≠ W.s.tl) (htl : W.s.tl < W.s.sz) (hnl : ∀ i, i < W.s.sz → i ≠ W.s.tl → W.s.nx i < W.s.sz) (hk : W.s.key W.s.tl = 10) (hk2 : ∀ i, i < W.s.sz → i ≠ W.s.tl → W.s.key i ≠ 10) (hup : ∀ i, i < W.s.sz → i ≠ W.s.tl → W.s.key i < W.s.key (W.s.nx i)) (hkb : ∀ i, i < W.s.sz → W.s.key i ≤ 10) (hp : Pn W.s.nx W.s.tl (W.s.nx 0) n) (hn : n ≤ 1000) (hnh : nh ≤ 4) (hlen : ∀ v, v < nh → (DL W v).length ≤ 5) (A : Option Addr) (c : Nat) (hA : 0 < nh → A = some ⟨B, 0, none⟩) :
    Calls Try.prog 37 #[.slice A nh c, jp (ad 0)] w (RetTold w.heap.size (DLs W nh) (lft W.s n (W.s.nx 0)) w) := by
  have H := Lib.hid h
  have HLF : Hid (∀ w', Below w.heap.size w w' → Calls Try.prog 72 #[jp (ad 0)] w' (RetK (lft W.s n (W.s.nx 0)) w')) := fun w' hb => left_any (lk := W.lk) ⟨fun i hi => (hb.block _ (h.js.l.lt hi)).trans (h.js.l.bd i hi)⟩ h0 h0t htl hnl hk hk2 hup hkb hp hn
  have HLEN := Lib.hid hlen
  have HA := Lib.hid hA
  clear h h0 h0t htl hnl hk hk2 hup hkb hp hn hlen hA
  go_enter Try.func37, Try.ntmps37
  go_wp2
  go_loopw [5, 10] (fun dv iv wr => ∃ k : Nat, k ≤ nh ∧ iv = .int .i64 k ∧ OwnD wr w.heap.size dv (DLs W k) ∧ (DLs W k).length ≤ 5 * k ∧ Below w.heap.size w wr ∧ TBk wr w.heap.size) (fun _ iv _ => nh - (intOf iv).toNat)
  case atStart => exact ⟨0, Nat.zero_le _, rfl, OwnD.nil _ _, Nat.le_refl _, (Below.refl _ _).alloc (Nat.le_refl _) _, heap_alloc_new w _⟩
  case round =>
    obtain ⟨k, hk, rfl, hown, hl, hbl, htb⟩ := hrel
    have HOWN := Lib.hid hown
    have HBL := Lib.hid hbl
    have HTB := Lib.hid htb
    have hszr := hbl.size
    by_cases hlt : k < nh
    · have e0 : A = some ⟨B, 0, none⟩ := HA.out (by omega)
      subst e0
      have hB : B < w.heap.size := H.out.js.h.lt
      have cc : ∀ i, i < 9 → wr.cell? ⟨B, k * 9 + i, none⟩ = some (hs k i) := fun i hi => (hbl.cell (by exact hB)).trans (H.out.js.h.cell hlt hi)
      have c0 : wr.cell? ⟨B, k * 9, none⟩ = some (hs k 0) := cc 0 (by omega)
      have c1 := cc 1 (by omega)
      have c2 := cc 2 (by omega)
      have c3 := cc 3 (by omega)
      have c4 := cc 4 (by omega)
      have c5 := cc 5 (by omega)
      have c6 := cc 6 (by omega)
      have c7 := cc 7 (by omega)
      have c8 := cc 8 (by omega)
      have s0 : ∀ (w : World) (a : Addr) (m : Mode), (store a (hs k 0) m).run Try.prog w = stored Try.prog w a (hs k 0) m := fun w a m => run_store _ w a _ m (H.out.js.h.one hlt (by omega))
      have s1 : ∀ (w : World) (a : Addr) (m : Mode), (store a (hs k 1) m).run Try.prog w = stored Try.prog w a (hs k 1) m := fun w a m => run_store _ w a _ m (H.out.js.h.one hlt (by omega))
      have s2 : ∀ (w : World) (a : Addr) (m : Mode), (store a (hs k 2) m).run Try.prog w = stored Try.prog w a (hs k 2) m := fun w a m => run_store _ w a _ m (H.out.js.h.one hlt (by omega))
      have s3 : ∀ (w : World) (a : Addr) (m : Mode), (store a (hs k 3) m).run Try.prog w = stored Try.prog w a (hs k 3) m := fun w a m => run_store _ w a _ m (H.out.js.h.one hlt (by omega))
      have s4 : ∀ (w : World) (a : Addr) (m : Mode), (store a (hs k 4) m).run Try.prog w = stored Try.prog w a (hs k 4) m := fun w a m => run_store _ w a _ m (H.out.js.h.one hlt (by omega))
      have s5 : ∀ (w : World) (a : Addr) (m : Mode), (store a (hs k 5) m).run Try.prog w = stored Try.prog w a (hs k 5) m := fun w a m => run_store _ w a _ m (H.out.js.h.one hlt (by omega))
      have s6 : ∀ (w : World) (a : Addr) (m : Mode), (store a (hs k 6) m).run Try.prog w = stored Try.prog w a (hs k 6) m := fun w a m => run_store _ w a _ m (H.out.js.h.one hlt (by omega))
      have s7 : ∀ (w : World) (a : Addr) (m : Mode), (store a (hs k 7) m).run Try.prog w = stored Try.prog w a (hs k 7) m := fun w a m => run_store _ w a _ m (H.out.js.h.one hlt (by omega))
      have s8 : ∀ (w : World) (a : Addr) (m : Mode), (store a (hs k 8) m).run Try.prog w = stored Try.prog w a (hs k 8) m := fun w a m => run_store _ w a _ m (H.out.js.h.one hlt (by omega))
      have HDK := Lib.hid (((H.out.ho k hlt).jv.done).keep (w' := wr) fun g hg => hbl.block g (H.out.blk hlt g hg))
      have hlk := HLEN.out k hlt
      have HS := Lib.hid (DLs_succ W k)
      clear cc hown hbl htb
      go_wp2_with (first
        | (at_builtin
           refine wpList_appD rfl (.tmp 14) (.tmp 16) rfl w.heap.size u5 (hs k 2) (DLs W k) (DL W k) rfl rfl (HOWN.out.below ((Below.refl _ _).alloc (Nat.le_refl _) _)) (HDK.out.below ((Below.refl _ _).alloc (Nat.le_refl _) _)) (by omega) (by simp; omega) ?_
           intro v2 w2 hown2 hgrow2 hat2
           have hge : ∀ g, u5.ownBlock = some g → w.heap.size ≤ g ∧ ∃ C, wr.heap[g]? = some (.cells C 37 (0, 0)) := fun g hg => (by obtain ⟨C, a, b⟩ := HOWN.out.blk hg; exact ⟨b, C, a⟩)
           have hb2 : Below w.heap.size w w2 := ((HBL.out.alloc hszr _)).grown hgrow2 (by simp; omega) (fun g hg => (hge g hg).1)
           have ht2 : TBk w2 w.heap.size := (by
             have ht := HTB.out
             unfold TBk at ht ⊢
             rw [hgrow2.block _ (by have := jblk ht; simp; omega) (fun e => by
               obtain ⟨_, C, hC⟩ := hge _ e.symm
               rw [ht] at hC
               injection hC with hC
               injection hC with _ hC
               exact absurd hC (by decide)), Below.heap_alloc _ _ _ (jblk ht)]
             exact ht)
           have HO2 := Lib.hid hown2
           have HB2 := Lib.hid hb2
           have HT2 := Lib.hid ht2
           clear hown2 hgrow2 hat2 hb2 ht2 hge)
        | fail)
      go_roundw
      case rel => exact ⟨k + 1, by omega, by go_num, by rw [HS.out]; exact HO2.out, by rw [HS.out, List.length_append]; omega, HB2.out, HT2.out⟩
      case measure => simp [intOf]; omega
    · obtain rfl : k = nh := by omega
      have HLF2 := Lib.hid (HLF.out wr hbl)
      clear hown hbl htb
      go_wp2_with fail
      refine HLF2.out.mono ?_
      rintro e w2 ⟨lv, rfl, hown2, hb2⟩
      have ht2 : TBk w2 w.heap.size := (hb2.block _ (jblk HTB.out)).trans HTB.out
      have t0 : w2.cell? ⟨w.heap.size, 0, none⟩ = some (.slice none 0 0) := by rw [jcell ht2]; rfl
      have t1 : w2.cell? ⟨w.heap.size, 1, none⟩ = some (.slice none 0 0) := by rw [jcell ht2]; rfl
      have f0 := jfroz (i := 0) ht2
      have f1 := jfroz (i := 1) ht2
      have HO2 := Lib.hid hown2
      have HB2 := Lib.hid hb2
      have HT2 := Lib.hid ht2
      clear hown2 hb2 ht2
      obtain ⟨dA, dc, rfl, -⟩ := HOWN.out.is_
      obtain ⟨lA, lc, rfl, -, -⟩ := HO2.out.is_
      obtain ⟨dn, hdn⟩ : ∃ dn, (DLs W k).length = dn := ⟨_, rfl⟩
      obtain ⟨ln, hln⟩ : ∃ ln, (lft W.s n (W.s.nx 0)).length = ln := ⟨_, rfl⟩
      have HDN := Lib.hid hdn
      have HLN := Lib.hid hln
      rw [hdn, hln]
      clear hdn hln
      go_wp2
      have hfin := jset_at (i := 1) (v := .slice lA ln lc) (jset_at (i := 0) (v := .slice dA dn dc) HT2.out)
      have r0 : ((w2.setCell ⟨w.heap.size, 0, none⟩ (.slice dA dn dc)).setCell ⟨w.heap.size, 1, none⟩ (.slice lA ln lc)).cell? ⟨w.heap.size, 0, none⟩ = some (.slice dA dn dc) := by rw [jcell hfin]; rfl
      have r1 : ((w2.setCell ⟨w.heap.size, 0, none⟩ (.slice dA dn dc)).setCell ⟨w.heap.size, 1, none⟩ (.slice lA ln lc)).cell? ⟨w.heap.size, 1, none⟩ = some (.slice lA ln lc) := by rw [jcell hfin]; rfl
      clear hfin
      refine bodyPost_ret (v := .agg #[.slice dA dn dc, .slice lA ln lc]) (by simp [results, Try.results37, go_sem, r0, r1]) rfl ?_
      have hz2 := HB2.out.size
      have hbw : Below w.heap.size wr w2 := HB2.out.mono hszr
      have hD2 : OwnD w2 w.heap.size (.slice dA dn dc) (DLs W k) := by
        have := HOWN.out
        rw [HDN.out] at this
        exact this.keep fun g hg => HB2.out.block g (by obtain ⟨cs, hc, _⟩ := this.blk hg; exact jblk hc)
      have hL2 : OwnI w2 w.heap.size (.slice lA ln lc) (lft W.s n (W.s.nx 0)) := by
        have := own_mono1 HO2.out hszr
        unfold OwnI
        rw [HLN.out] at this ⊢
        exact this
      refine ⟨_, _, rfl, ?_, ?_, ((HBL.out.trans hbw).setCell (p := ⟨w.heap.size, 0, none⟩) (Nat.le_refl _) _).setCell (p := ⟨w.heap.size, 1, none⟩) (Nat.le_refl _) _⟩
      · refine hD2.keep fun g hg => ?_
        obtain ⟨cs, hc, _⟩ := hD2.blk hg
        have hne : g ≠ w.heap.size := fun e => by
          have ht := HT2.out
          unfold TBk at ht
          rw [e, ht] at hc
          injection hc with hc
          injection hc with _ hc
          exact absurd hc (by decide)
        rw [Below.heap_setCell _ _ _ _ hne, Below.heap_setCell _ _ _ _ hne]
      · refine ⟨hL2.1, ?_⟩
        rcases hL2.2 with h0 | ⟨g, cap, cur, h1, h2, h3, h4⟩
        · exact .inl h0
        · have hne : g ≠ w.heap.size := fun e => by
            have ht := HT2.out
            unfold TBk at ht
            rw [e, ht] at h3
            injection h3 with h3
            injection h3 with _ h3
            exact absurd h3 (by decide)
          exact .inr ⟨g, cap, cur, h1, h2, by rw [Below.heap_setCell _ _ _ _ hne, Below.heap_setCell _ _ _ _ hne]; exact h3, h4⟩
end

end Go.Proofs.Ytfmdpmebllepeaa
