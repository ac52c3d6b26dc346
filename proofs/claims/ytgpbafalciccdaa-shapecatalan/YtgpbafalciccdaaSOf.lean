/-
  grown, of a list that tells a tree; shape.Of of such a list.
-/
import Derived.Test.YtgpbafalciccdaaSOrd
import Derived.BigRegion
namespace Go.Proofs.Ytgpbafalciccdaa
open Go.RowKit

/-- all keys on the left are less, all on the right more -/
def Tr.srt : Tr → Prop
  | .nil => True
  | .node a k b => (∀ x ∈ a.pre, x < k) ∧ (∀ x ∈ b.pre, k < x) ∧ a.srt ∧ b.srt

structure Grw (w w' : World) (v v' : Value) : Prop where
  gb : w.grownBy w' v.ownBlock
  at_ : v'.ownBlock = v.ownBlock ∨ ∀ g, v'.ownBlock = some g → w.heap.size ≤ g
theorem Grw.refl (w : World) (v : Value) : Grw w w v v := ⟨World.grownBy.refl _ _, .inl rfl⟩
theorem Grw.trans {w w1 w2 : World} {v v1 v2 : Value} (h : Grw w w1 v v1) (h1 : Grw w1 w2 v1 v2) : Grw w w2 v v2 := by
  refine ⟨h.gb.andThen h1.gb (fun j hj => ?_), ?_⟩
  · rcases h.at_ with e | e
    · right; rw [← e]; exact hj
    · left; exact e j hj
  · rcases h1.at_ with e1 | e1
    · rcases h.at_ with e | e
      · left; rw [e1, e]
      · right; rw [e1]; exact e
    · right
      intro g hg
      have := e1 g hg
      have := h.gb.size
      omega
theorem Grw.of_below {w w' : World} (v : Value) (h : Below w.heap.size w w') : Grw w w' v v := ⟨⟨h.os, h.tape, h.output, h.size, fun k hk _ => h.block k hk⟩, .inl rfl⟩
theorem Grw.below {w w' : World} {v v' : Value} {base : Nat} (h : Grw w w' v v') (hb : base ≤ w.heap.size) (hv : ∀ g, v.ownBlock = some g → base ≤ g) : Below base w w' := (Below.refl _ _).grown h.gb hb hv
theorem Grw.cell {w w' : World} {v v' : Value} (h : Grw w w' v v') {p : Addr} {u : Value} (hc : w.cell? p = some u) (hne : v.ownBlock ≠ some p.block) : w'.cell? p = some u := h.gb.cell hc (fun e => hne e.symm)
theorem IS.low {w w' : World} {base n c : Nat} {A : Option Addr} {l : List Int} (h : IS w A n c l) (hA : 0 < n → ∀ ad, A = some ad → ad.block < base) (hb : Below base w w') : IS w' A n c l := by
  refine ⟨h.len, h.rd.1, fun hn => ?_⟩
  obtain ⟨b, off, e, hlt, hc⟩ := h.rd.2 hn
  have hbb := hA hn _ e
  exact ⟨b, off, e, Nat.lt_of_lt_of_le hlt hb.size, fun i hi j hj => (hb.cell (by exact hbb)).trans (hc i hi j hj)⟩

theorem grown1_any (key k : Int) (g : Nat) (w : World) (hc : w.cell? ⟨g, 0, none⟩ = some (I k)) (h : k < key) :
    Calls Try.prog 41 #[I key, .pointer (some ⟨g, 0, none⟩)] w fun e w' => e = .returned (.bool false) ∧ w = w' := by
  have hn : ¬ key ≤ k := by omega
  go_enter Try.func41, Try.ntmps41
  go_wp2
  go_ret
  exact ⟨by simp [hn], rfl⟩

set_option maxRecDepth 100000 in
set_option maxHeartbeats 1000000 in
theorem ixGrown_none (A : Option Addr) (n c g : Nat) (l : List Int) (k : Int) (w : World) (h : IS w A n c l) (hn : n ≤ 1000) (hc : w.cell? ⟨g, 0, none⟩ = some (I k)) (hall : ∀ x ∈ l, k < x) :
    Calls Try.prog 55 #[.slice A n c, .func (.func 41) #[] #[.pointer (some ⟨g, 0, none⟩)]] w fun e w' => e = .returned (I (-1)) ∧ w = w' := by
  have H := Lib.hid h
  have Hlen := Lib.hid h.len
  have HC := Lib.hid hc
  have HA := Lib.hid hall
  clear h hc hall
  go_enter Try.func55, Try.ntmps55
  go_wp2
  go_loop [8] (fun i => ∃ j : Nat, j ≤ n ∧ i = .int .i64 j) (fun i => n - (intOf i).toNat)
  case atStart => exact ⟨0, Nat.zero_le _, rfl⟩
  case round =>
    obtain ⟨j, hj, rfl⟩ := hrel
    by_cases hlt : j < n
    · obtain ⟨b, off, rfl, hb, hcs⟩ := H.out.at_ (by omega)
      have hjl : j < l.length := by rw [Hlen.out]; exact hlt
      have hc0 : w.cell? ⟨b, off + j, none⟩ = some (I l[j]) := hcs j hlt
      have HCALL := Lib.hid (grown1_any l[j] k g w HC.out (HA.out _ (List.getElem_mem hjl)))
      clear hcs
      go_wp2_with fail
      refine HCALL.out.mono ?_
      rintro e w1 ⟨rfl, rfl⟩
      go_wp2
      go_round
      case rel => exact ⟨j + 1, by omega, by go_num⟩
      case measure => simp [intOf]; omega
    · go_wp2
      go_ret
      exact ⟨rfl, rfl⟩
theorem contGrown_none (A : Option Addr) (n c g : Nat) (l : List Int) (k : Int) (w : World) (h : IS w A n c l) (hn : n ≤ 1000) (hc : w.cell? ⟨g, 0, none⟩ = some (I k)) (hall : ∀ x ∈ l, k < x) :
    Calls Try.prog 40 #[.slice A n c, .func (.func 41) #[] #[.pointer (some ⟨g, 0, none⟩)]] w fun e w' => e = .returned (.bool false) ∧ w = w' := by
  have HX := Lib.hid (ixGrown_none A n c g l k w h hn hc hall)
  clear h hc hall
  go_enter Try.func40, Try.ntmps40
  go_wp2_with fail
  refine HX.out.mono ?_
  rintro e w1 ⟨rfl, rfl⟩
  go_wp2
  go_ret
  exact ⟨rfl, rfl⟩

theorem own_lt {w : World} {base t : Nat} {v : Value} {L : PL} (h : OwnR w base t v L) : ∀ g, v.ownBlock = some g → g < w.heap.size := by
  intro g hg
  rcases h.2 with ⟨rfl, _⟩ | ⟨g', cap, cur, rfl, hb, hh, _⟩
  · simp [Value.ownBlock] at hg
  · simp [Value.ownBlock] at hg
    subst hg
    rcases Nat.lt_or_ge g' w.heap.size with hlt | hge
    · exact hlt
    · rw [Array.getElem?_eq_none hge] at hh; cases hh
theorem src_one (w : World) (k d : Int) : Src (w.alloc (.cells #[I k, I d] 32)) (some ⟨w.heap.size, 0, none⟩) 1 [(k, d)] := by
  refine ⟨rfl, fun _ => ⟨_, rfl, fun j u hu => ?_⟩⟩
  rw [addn, cell_of_row _ _ _ _ _ _ (heap_alloc_new w _)]
  simpa [flat] using hu

theorem run_makeR {P : Program} (t e : TypeId) (ht : P.underlying t = some (.slice e)) (hi : (P.info? e).map (fun i => (i.zero, i.size, i.bytes)) = some (some (.agg #[I 0, I 0]), 2, 16)) (n c : Nat) (hnc : n ≤ c) (hc : c ≤ 1000000) (w : World) :
    (Instr.makeSlice t (.int .i64 (n : Int)) (.int .i64 (c : Int))).run P w = .ok (.slice (some ⟨w.heap.size, 0, none⟩) n c) (w.alloc (.cells (flat (List.replicate c (0, 0))).toArray e)) := by
  obtain ⟨i, h1, hz, hs, hb⟩ := info_parts hi
  have := run_make (P := P) w t e i _ ht h1 hz .i64 .i64 n c (by omega) (by omega) (by rw [hb]; omega) (by omega)
  rw [this, hs]
  simp only [Int.toNat_natCast, Value.cells]
  rw [flat_made]

/-- spots come back in a row of the call's own, and true -/
def RetGr (L : PL) (base : Nat) (w : World) (v : Value) (e : Ending) (w' : World) : Prop := ∃ v', e = .returned (.tuple #[v', .bool true]) ∧ OwnR w' base 32 v' L ∧ Grw w w' v v'

set_option maxRecDepth 100000 in
set_option maxHeartbeats 2000000 in
theorem grown_any (t : Tr) : ∀ (A : Option Addr) (n c base : Nat) (d : Int) (v : Value) (L : PL) (w : World), t.srt → IS w A n c t.pre → (0 < n → ∀ ad, A = some ad → ad.block < base) → OwnR w base 32 v L → base ≤ w.heap.size → L.length + n ≤ 1000 → 0 ≤ d → d + n ≤ 1000 →
    Calls Try.prog 33 #[v, .slice A n c, I d] w (RetGr (L ++ t.sp d) base w v) := by
  induction t with
  | nil =>
    intro A n c base d v L w _ h hA hown hbase hK hd0 hd1
    obtain rfl : n = 0 := by have := h.len; simpa [Tr.pre] using this.symm
    have HO := Lib.hid hown
    clear h hown
    go_enter Try.func33, Try.ntmps33
    go_wp2
    go_ret2
    exact ⟨v, rfl, by simpa [Tr.sp] using HO.out, Grw.refl _ _⟩
  | node a k b iha ihb =>
    intro A n c base d v L w hsrt h hA hown hbase hK hd0 hd1
    obtain ⟨hsa, hsb, hta, htb⟩ := hsrt
    have hlen : n = a.size + 1 + b.size := by rw [← h.len, pre_length]; rfl
    have hcap := h.rd.1
    obtain ⟨bb, off, rfl, hbl, hcs⟩ := h.at_ (by omega)
    have hbb : bb < base := hA (by omega) _ rfl
    have hc0 : w.cell? ⟨bb, off, none⟩ = some (I k) := by have := hcs 0 (by omega); simpa [Tr.pre] using this
    have HT : Hid (∀ sp, (1 < n → sp = some ⟨bb, off + 1, none⟩) → IS w sp (n - 1) (c - 1) (a.pre ++ b.pre)) := fun sp hs => by
      have := h.drop (c' := c - 1) 1 (by omega) sp (fun hlt b' off' e => by cases e; exact hs hlt) (by omega)
      simpa [Tr.pre] using this
    have hnb : ((n : Int) == 0) = false := by simp; omega
    have hn1 : n ≤ 1000 := by omega
    have hnz : (0 : Int) < (n : Int) := by omega
    have hn1' : (1 : Int) ≤ (n : Int) := by omega
    have hn0 : 0 < n := by omega
    have hn2 : 1 ≤ n := by omega
    have HO := Lib.hid hown
    have IHA := Lib.hid iha
    have IHB := Lib.hid ihb
    have HN := Lib.hid hlen
    have HSA := Lib.hid hsa
    have HSB := Lib.hid hsb
    have HTA := Lib.hid hta
    have HTB := Lib.hid htb
    clear h hown iha ihb hlen hsa hsb hta htb hcs hA
    go_enter Try.func33, Try.ntmps33
    go_wp2
    go_region
    obtain ⟨sp, hsp⟩ : ∃ sp : Option Addr, (if c = 1 then some ⟨bb, off, none⟩ else some ⟨bb, off + 1, none⟩) = sp := ⟨_, rfl⟩
    have hspv : 1 < n → sp = some ⟨bb, off + 1, none⟩ := fun h1 => by rw [← hsp, if_neg (by omega)]
    have HIS := Lib.hid (HT.out sp hspv)
    have HSPB : Hid (∀ ad, sp = some ad → ad.block < base) := fun ad e => by
      rw [← hsp] at e
      split at e <;> (cases e; exact hbb)
    rw [hsp]
    clear hsp hspv HT
    obtain ⟨m, hm⟩ : ∃ m, n - 1 = m := ⟨_, rfl⟩
    obtain ⟨cc, hcc⟩ : ∃ cc, c - 1 = cc := ⟨_, rfl⟩
    obtain ⟨x, hx⟩ : ∃ x, a.size = x := ⟨_, rfl⟩
    obtain ⟨R, hR⟩ : ∃ R, a.pre ++ b.pre = R := ⟨_, rfl⟩
    rw [hm, hcc]
    rw [hm, hcc, hR] at HIS
    have hmx : m = x + b.size := by have := HN.out; omega
    have hxm : x ≤ m := by omega
    have hmn : m + 1 = n := by omega
    have hmc : m ≤ cc := by omega
    have hRl : R.length = m := HIS.out.len
    have HRT : Hid (R.take x = a.pre ∧ R.drop x = b.pre) := by
      show _ ∧ _
      have e : x = a.pre.length := by rw [pre_length, hx]
      rw [← hR, e]
      exact ⟨List.take_left, List.drop_left⟩
    have HLE : Hid (∀ j (h : j < R.length), j < x → R[j] < k) := fun j h hj => by
      refine HSA.out _ ?_
      rw [← HRT.out.1]
      exact List.mem_take_iff_getElem.2 ⟨j, by omega, rfl⟩
    have HGT : Hid (∀ y ∈ R.drop x, k < y) := by
      show ∀ y ∈ R.drop x, k < y
      rw [HRT.out.2]
      exact HSB.out
    have HX := Lib.hid hx
    have HRL := Lib.hid hRl
    have HM := Lib.hid hmx
    have hnm : n = m + 1 := hmn.symm
    clear hx hR hmx hRl hm hcc hmn HSA HSB HN hnb hnz hn1' hn0 hn2
    subst hnm
    generalize hW0 : (w.alloc (Obj.cells #[Value.int IntKind.i64 k] 3)).drew = W0
    have hg0 : Below w.heap.size w W0 := by rw [← hW0]; exact ((Below.refl _ _).alloc (Nat.le_refl _) _).drew
    have hk0 : W0.cell? ⟨w.heap.size, 0, none⟩ = some (I k) := by
      rw [← hW0]
      exact cell_of_row _ _ _ _ _ _ (heap_alloc_new w _)
    have hz0 : w.heap.size < W0.heap.size := by rw [← hW0]; simp [World.drew]
    have HG0 := Lib.hid hg0
    have HK0 := Lib.hid hk0
    clear hW0 hg0 hk0
    go_wp2
    go_loopw [10] (fun i wr => ∃ j : Nat, j ≤ x ∧ i = .int .i64 j ∧ Below W0.heap.size W0 wr) (fun i _ => x - (intOf i).toNat)
    case atStart => exact ⟨0, Nat.zero_le _, rfl, Below.refl _ _⟩
    case round =>
      obtain ⟨j, hj, rfl, hnx⟩ := hrel
      have hkr : wr.cell? ⟨w.heap.size, 0, none⟩ = some (I k) := (hnx.cell (by exact hz0)).trans HK0.out
      have HNX := Lib.hid hnx
      have HISR := Lib.hid ((HIS.out.below HG0.out).below hnx)
      clear hnx
      by_cases hlt : j < x
      · obtain ⟨b1, off1, rfl, hb1, hcs⟩ := HISR.out.at_ (by omega)
        have hjl : j < R.length := by rw [HRL.out]; omega
        have hcj : wr.cell? ⟨b1, off1 + j, none⟩ = some (I R[j]) := hcs j (by omega)
        have hlk : R[j] < k := HLE.out j hjl hlt
        have hjm : j < m := by omega
        clear hcs
        go_wp2
        go_quiet (fail)
        go_wp2
        go_roundw
        case rel => exact ⟨j + 1, by omega, by go_num, below_drewN HNX.out _⟩
        case measure => simp [intOf]; omega
      · obtain rfl : j = x := by omega
        by_cases hjm : j < m
        · obtain ⟨b1, off1, rfl, hb1, hcs⟩ := HISR.out.at_ (by omega)
          have hjl : j < R.length := by rw [HRL.out]; omega
          have hcj : wr.cell? ⟨b1, off1 + j, none⟩ = some (I R[j]) := hcs j (by omega)
          have hlk : ¬ R[j] < k := by
            have := HGT.out R[j] (List.mem_drop_iff_getElem.2 ⟨0, by omega, by simp⟩)
            omega
          have hjc : j ≤ cc := by omega
          have hjm' : j ≤ m := by omega
          clear hcs hlt
          go_wp2
          go_quiet (fail)
          obtain ⟨q1, hq1⟩ : ∃ q1, q1 = nq := ⟨_, rfl⟩
          subst hq1
          go_wp2
          go_quiet (fail)
          have HSP2 : j < m → ∀ b off, (some ⟨b1, off1, none⟩ : Option Addr) = some ⟨b, off, none⟩ → (some ⟨b1, off1 + j, none⟩ : Option Addr) = some ⟨b, off + j, none⟩ := fun _ b off e => by cases e; rfl
          have HSPB2 : ∀ ad, (some ⟨b1, off1 + j, none⟩ : Option Addr) = some ad → ad.block < base := fun ad e => by cases e; exact HSPB.out ⟨b1, off1, none⟩ rfl
          have hbw : Below W0.heap.size W0 ((wr.drewN q1).drewN nq) := below_drewN (below_drewN HNX.out _) _
          have HBW : Hid (Below w.heap.size w ((wr.drewN q1).drewN nq)) := HG0.out.trans (hbw.mono (by omega))
          have hkw : ((wr.drewN q1).drewN nq).cell? ⟨w.heap.size, 0, none⟩ = some (I k) := (hbw.cell (by exact hz0)).trans HK0.out
          have hzw : w.heap.size < ((wr.drewN q1).drewN nq).heap.size := Nat.lt_of_lt_of_le hz0 hbw.size
          generalize ((wr.drewN q1).drewN nq) = W1 at *
          have hisw := HIS.out.below HBW.out
          have HLI : Hid (IS W1 (some ⟨b1, off1, none⟩) j cc a.pre) := by
            have := hisw.take j (by omega)
            rw [HRT.out.1] at this
            exact this
          have HRI : Hid (IS W1 (some ⟨b1, off1 + j, none⟩) (m - j) (cc - j) b.pre) := by
            have := hisw.drop (c' := cc - j) j (by omega) (some ⟨b1, off1 + j, none⟩) HSP2 (by omega)
            rw [HRT.out.2] at this
            exact this
          have hgt := HGT.out
          rw [HRT.out.2] at hgt
          have HGT2 := Lib.hid hgt
          have HKW := Lib.hid hkw
          clear hbw hkw hisw hgt
          go_wp2_with fail
          refine (contGrown_none (some ⟨b1, off1 + j, none⟩) (m - j) (cc - j) w.heap.size b.pre k W1 HRI.out (by omega) HKW.out HGT2.out).mono ?_
          rintro e w' ⟨rfl, rfl⟩
          go_wp2_with fail
          refine (IHA.out (some ⟨b1, off1, none⟩) j cc base (d + 1) v L W1 HTA.out HLI.out (fun _ => HSPB.out) (own_below HO.out HBW.out) (Nat.le_trans hbase (Nat.le_of_lt hzw)) (by omega) (by omega) (by omega)).mono ?_
          rintro e w2 ⟨v2, rfl, ho2, hg2⟩
          have hk2 : w2.cell? ⟨w.heap.size, 0, none⟩ = some (I k) := hg2.cell HKW.out (fun e => by have := own_lt HO.out _ e; simp at this)
          have HG2 : Hid (Grw w w2 v v2) := (Grw.of_below v HBW.out).trans hg2
          have hz2 : base ≤ w2.heap.size := Nat.le_trans hbase HG2.out.gb.size
          have HRI2 : Hid (IS w2 (some ⟨b1, off1 + j, none⟩) (m - j) (cc - j) b.pre) := HRI.out.low (fun _ => HSPB2) (hg2.below (Nat.le_trans hbase (Nat.le_of_lt hzw)) (OwnR.ge HO.out))
          have HO2 := Lib.hid ho2
          clear ho2 hg2
          go_wp2_with (first
            | (at_builtin
               refine wpList_app2 rfl (.tmp 56) (.tmp 60) 22 rfl 32 Try.underlying22 spot_info base v2 (L ++ a.sp (d + 1)) [(k, d)] (some ⟨w2.heap.size, 0, none⟩) 1 1 rfl rfl (own_below HO2.out ((Below.refl _ _).alloc (Nat.le_refl _) _)) (src_one w2 k d) ?hbd ?hbs ?_
               case hbd => simp [sp_length]; have := HX.out; omega
               case hbs => simp; omega
               intro v3 w3 hown3 hgrow3 hat3)
            | fail)
          have hg3 : Grw w2 w3 v2 v3 := (Grw.of_below v2 ((Below.refl _ _).alloc (Nat.le_refl _) _)).trans ⟨hgrow3, hat3.imp id (fun e g hg => by rw [e] at hg; cases hg; exact Nat.le_refl _)⟩
          have HG3 : Hid (Grw w w3 v v3) := HG2.out.trans hg3
          have HRI3 : Hid (IS w3 (some ⟨b1, off1 + j, none⟩) (m - j) (cc - j) b.pre) := HRI2.out.low (fun _ => HSPB2) (hg3.below hz2 (OwnR.ge HO2.out))
          have HO3 : Hid (OwnR w3 base 32 v3 (L ++ a.sp (d + 1) ++ [(k, d)])) := hown3
          clear hown3 hgrow3 hat3 hg3
          refine (IHB.out (some ⟨b1, off1 + j, none⟩) (m - j) (cc - j) base (d + 1) v3 (L ++ a.sp (d + 1) ++ [(k, d)]) w3 HTB.out HRI3.out (fun _ => HSPB2) HO3.out (Nat.le_trans hbase HG3.out.gb.size) ?hl (by omega) (by omega)).mono ?_
          case hl => simp [sp_length]; have := HX.out; omega
          rintro e w4 ⟨v4, rfl, ho4, hg4⟩
          have HO4 := Lib.hid ho4
          have HG4 := Lib.hid (HG3.out.trans hg4)
          clear ho4 hg4
          go_wp2
          go_ret2
          exact ⟨v4, rfl, by simpa [Tr.sp] using HO4.out, HG4.out⟩
        · have hd : decide (j < m) = false := by simpa using hjm
          have hjc : j ≤ cc := by omega
          have hjm' : j ≤ m := by omega
          clear hlt
          go_wp2
          go_quiet (fail)
          obtain ⟨q1, hq1⟩ : ∃ q1, q1 = nq := ⟨_, rfl⟩
          subst hq1
          go_wp2
          go_quiet (fail)
          obtain ⟨sp2, hsp2⟩ : ∃ sp2 : Option Addr, (if cc = j then sp else Option.map (fun x => x.add j) sp) = sp2 := ⟨_, rfl⟩
          have HSP2 : j < m → ∀ b off, sp = some ⟨b, off, none⟩ → sp2 = some ⟨b, off + j, none⟩ := fun h => absurd h hjm
          have HSPB2 : ∀ ad, sp2 = some ad → ad.block < base := fun ad e => by
            rw [← hsp2] at e
            split at e
            · exact HSPB.out ad e
            · cases sp with
              | none => cases e
              | some q => simp at e; subst e; have := HSPB.out q rfl; unfold Addr.add; split <;> exact this
          rw [hsp2]
          clear hsp2
          have hbw : Below W0.heap.size W0 ((wr.drewN q1).drewN nq) := below_drewN (below_drewN HNX.out _) _
          have HBW : Hid (Below w.heap.size w ((wr.drewN q1).drewN nq)) := HG0.out.trans (hbw.mono (by omega))
          have hkw : ((wr.drewN q1).drewN nq).cell? ⟨w.heap.size, 0, none⟩ = some (I k) := (hbw.cell (by exact hz0)).trans HK0.out
          have hzw : w.heap.size < ((wr.drewN q1).drewN nq).heap.size := Nat.lt_of_lt_of_le hz0 hbw.size
          generalize ((wr.drewN q1).drewN nq) = W1 at *
          have hisw := HIS.out.below HBW.out
          have HLI : Hid (IS W1 sp j cc a.pre) := by
            have := hisw.take j (by omega)
            rw [HRT.out.1] at this
            exact this
          have HRI : Hid (IS W1 sp2 (m - j) (cc - j) b.pre) := by
            have := hisw.drop (c' := cc - j) j (by omega) sp2 HSP2 (by omega)
            rw [HRT.out.2] at this
            exact this
          have hgt := HGT.out
          rw [HRT.out.2] at hgt
          have HGT2 := Lib.hid hgt
          have HKW := Lib.hid hkw
          clear hbw hkw hisw hgt
          go_wp2_with fail
          refine (contGrown_none sp2 (m - j) (cc - j) w.heap.size b.pre k W1 HRI.out (by omega) HKW.out HGT2.out).mono ?_
          rintro e w' ⟨rfl, rfl⟩
          go_wp2_with fail
          refine (IHA.out sp j cc base (d + 1) v L W1 HTA.out HLI.out (fun _ => HSPB.out) (own_below HO.out HBW.out) (Nat.le_trans hbase (Nat.le_of_lt hzw)) (by omega) (by omega) (by omega)).mono ?_
          rintro e w2 ⟨v2, rfl, ho2, hg2⟩
          have hk2 : w2.cell? ⟨w.heap.size, 0, none⟩ = some (I k) := hg2.cell HKW.out (fun e => by have := own_lt HO.out _ e; simp at this)
          have HG2 : Hid (Grw w w2 v v2) := (Grw.of_below v HBW.out).trans hg2
          have hz2 : base ≤ w2.heap.size := Nat.le_trans hbase HG2.out.gb.size
          have HRI2 : Hid (IS w2 sp2 (m - j) (cc - j) b.pre) := HRI.out.low (fun _ => HSPB2) (hg2.below (Nat.le_trans hbase (Nat.le_of_lt hzw)) (OwnR.ge HO.out))
          have HO2 := Lib.hid ho2
          clear ho2 hg2
          go_wp2_with (first
            | (at_builtin
               refine wpList_app2 rfl (.tmp 56) (.tmp 60) 22 rfl 32 Try.underlying22 spot_info base v2 (L ++ a.sp (d + 1)) [(k, d)] (some ⟨w2.heap.size, 0, none⟩) 1 1 rfl rfl (own_below HO2.out ((Below.refl _ _).alloc (Nat.le_refl _) _)) (src_one w2 k d) ?hbd ?hbs ?_
               case hbd => simp [sp_length]; have := HX.out; omega
               case hbs => simp; omega
               intro v3 w3 hown3 hgrow3 hat3)
            | fail)
          have hg3 : Grw w2 w3 v2 v3 := (Grw.of_below v2 ((Below.refl _ _).alloc (Nat.le_refl _) _)).trans ⟨hgrow3, hat3.imp id (fun e g hg => by rw [e] at hg; cases hg; exact Nat.le_refl _)⟩
          have HG3 : Hid (Grw w w3 v v3) := HG2.out.trans hg3
          have HRI3 : Hid (IS w3 sp2 (m - j) (cc - j) b.pre) := HRI2.out.low (fun _ => HSPB2) (hg3.below hz2 (OwnR.ge HO2.out))
          have HO3 : Hid (OwnR w3 base 32 v3 (L ++ a.sp (d + 1) ++ [(k, d)])) := hown3
          clear hown3 hgrow3 hat3 hg3
          refine (IHB.out sp2 (m - j) (cc - j) base (d + 1) v3 (L ++ a.sp (d + 1) ++ [(k, d)]) w3 HTB.out HRI3.out (fun _ => HSPB2) HO3.out (Nat.le_trans hbase HG3.out.gb.size) ?hl (by omega) (by omega)).mono ?_
          case hl => simp [sp_length]; have := HX.out; omega
          rintro e w4 ⟨v4, rfl, ho4, hg4⟩
          have HO4 := Lib.hid ho4
          have HG4 := Lib.hid (HG3.out.trans hg4)
          clear ho4 hg4
          go_wp2
          go_ret2
          exact ⟨v4, rfl, by simpa [Tr.sp] using HO4.out, HG4.out⟩

set_option maxRecDepth 100000 in
set_option maxHeartbeats 1000000 in
theorem Of_ok (A : Option Addr) (n c : Nat) (t : Tr) (w : World) (h : IS w A n c t.pre) (hn : n ≤ 200) (hs : t.srt) (hk : ∀ x ∈ t.pre, 0 ≤ x ∧ x ≤ 1000000) :
    Calls Try.prog 21 #[.slice A n c] w (RetSp (t.sp 0) w) := by
  have H := Lib.hid h
  have Hlen := Lib.hid h.len
  have HS := Lib.hid hs
  have HK := Lib.hid hk
  have hlow : ∀ ad, A = some ad → 0 < n → ad.block < w.heap.size := by
    intro ad e h0
    obtain ⟨b, off, e', hb, _⟩ := h.at_ h0
    rw [e'] at e
    cases e
    exact hb
  have HLOW := Lib.hid hlow
  clear h hs hk hlow
  obtain ⟨O, HO, hmk⟩ : ∃ O, Hid (O = .cells (flat (List.replicate n (0, 0))).toArray 32) ∧ ∀ w, (Instr.makeSlice 22 (.int .i64 0) (.int .i64 (n : Int))).run Try.prog w = .ok (.slice (some ⟨w.heap.size, 0, none⟩) 0 n) (w.alloc O) :=
    ⟨_, Lib.hid rfl, fun w => run_makeR (P := Try.prog) 22 32 Try.underlying22 spot_info 0 n (by omega) (by omega) w⟩
  go_enter Try.func21, Try.ntmps21
  go_wp2
  go_loop [13] (fun i => ∃ j : Nat, j ≤ n ∧ i = .int .i64 j) (fun i => n - (intOf i).toNat)
  case atStart => exact ⟨0, Nat.zero_le _, rfl⟩
  case round =>
    obtain ⟨j, hj, rfl⟩ := hrel
    by_cases hlt : j < n
    · obtain ⟨b, off, rfl, hb, hcs⟩ := H.out.at_ (by omega)
      have hjl : j < t.pre.length := by rw [Hlen.out]; exact hlt
      have hc0 : w.cell? ⟨b, off + j, none⟩ = some (I t.pre[j]) := hcs j hlt
      obtain ⟨hx0, hx1⟩ := HK.out _ (List.getElem_mem hjl)
      generalize t.pre[j] = x at *
      clear hcs
      go_wp2
      go_round
      case rel => exact ⟨j + 1, by omega, by go_num⟩
      case measure => simp [intOf]; omega
    · have hown : OwnR (w.alloc O) w.heap.size 32 (.slice (some ⟨w.heap.size, 0, none⟩) 0 n) [] := by
        rw [HO.out]
        exact ⟨rfl, .inr ⟨w.heap.size, n, _, rfl, Nat.le_refl _, heap_alloc_new w _, Nat.zero_le _, by unfold maxLen; omega, by simp [flat_length], rfl⟩⟩
      have HOWN := Lib.hid hown
      clear hown
      go_wp2_with fail
      refine (grown_any t A n c w.heap.size 0 _ [] _ HS.out (H.out.alloc O) (fun h0 ad e => HLOW.out ad e h0) HOWN.out (by simp) (by simp; omega) (by omega) (by omega)).mono ?_
      rintro e w2 ⟨v2, rfl, ho2, hg2⟩
      obtain ⟨A2, c2, rfl, hps, hge⟩ := ho2.ps
      have HB2 : Hid (Below w.heap.size w w2) := ((Below.refl _ _).alloc (Nat.le_refl _) O).trans (hg2.below (by simp) (OwnR.ge HOWN.out))
      have HPS := Lib.hid hps
      have HGE := Lib.hid hge
      clear ho2 hg2 hps hge
      go_wp2
      go_ret2
      exact ⟨A2, _, c2, rfl, HPS.out, HB2.out, HGE.out⟩

end Go.Proofs.Ytgpbafalciccdaa
