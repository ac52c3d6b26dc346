/-
  Joined texts: YtpnjnedfcdppaaaGreatDoorGCheck, YtpnjnedfcdppaaaGreatDoorGOf.
-/
import Derived.Test.YtpnjnedfcdppaaaGreatDoorChecked
import Derived.Test.YtpnjnedfcdppaaaGreatDoorOSpotsAll
import Derived.Test.YtpnjnedfcdppaaaGreatDoorEqTAll
import Derived.Maps.OwnSet
import Derived.Maps.AppendAt
import Derived.WalkKit
import Derived.Deep.LoopGhost
import Derived.BigQuiet
import Derived.Deep.QuietTactic
import Derived.Test.YtpnjnedfcdppaaaGreatDoorOSumAll
/-
  check: may these keys come? What was seen is kept in a map of the call's own.
-/
namespace Go.Proofs.YtpnjnedfcdppaaaGreatDoor
open Go.RowKit Go.Maps

theorem keyed_int : Keyed Tryz.prog 3 := int_keyed Tryz.underlying3
theorem zero_bool (w : World) : (zeroValue 4).run Tryz.prog w = .ok (.bool false) w := by kernel_rfl
theorem elem_bool_inv {P : Program} {e : TypeId} (he : P.underlying e = some .bool) {v : Value} {z : DataW Unit × List MemPlace} (h : plainElem P e v = some z) : ∃ x, v = .bool x ∧ z = (.lit (.bool x), []) := by
  unfold plainElem at h
  rw [he] at h
  cases v <;> simp at h
  exact ⟨_, rfl, h.symm⟩

/-- the keys that were seen -/
def Sd (l : List Int) : DataW Unit := l.foldl (fun D x => D.put (.int .i64 x) (.lit (.bool true))) (.map [])
theorem Sd_snoc (l : List Int) (x : Int) : Sd (l ++ [x]) = (Sd l).put (.int .i64 x) (.lit (.bool true)) := by simp [Sd]
theorem fold_at (x : Int) (z : DataW Unit) : ∀ (l : List Int) (D : DataW Unit), IsMap D →
    (l.foldl (fun D x => D.put (.int .i64 x) (.lit (.bool true))) D).atKey (.int .i64 x) z = if x ∈ l then .lit (.bool true) else D.atKey (.int .i64 x) z
  | [], D, _ => by simp
  | y :: l, D, hD => by
    rw [List.foldl_cons, fold_at x z l _ (hD.put _ _)]
    by_cases h1 : x ∈ l
    · simp [h1]
    · by_cases h2 : x = y
      · subst h2
        simp only [List.mem_cons, h1, or_false, if_true, if_false]
        exact atKey_put_same hD (by first | trivial | simp [WideAt.IsKeyLit]) _ _
      · simp only [List.mem_cons, h1, h2, or_false, if_false]
        exact atKey_put_other (by simp [h2]) _ _
theorem Sd_at (l : List Int) (x : Int) : (Sd l).atKey (.int .i64 x) (.lit (.bool false)) = .lit (.bool (decide (x ∈ l))) := by
  unfold Sd
  rw [fold_at x _ l _ isMap_empty]
  by_cases h : x ∈ l <;> simp [h]
  rfl
theorem look_seen {w : World} {g n : Nat} {l : List Int} (h : w.ownsMap Tryz.prog 3 (plainElem Tryz.prog 4) g n (Sd l)) {x : Int} (hw : (Lit.int .i64 x).wf = true) :
    (Instr.lookup 207 (.map (some g)) (I x) false).run Tryz.prog w = .ok (.bool (decide (x ∈ l))) w := by
  obtain ⟨v, ps, hrun, hv⟩ := h.lookup keyed_int Tryz.underlying207 (zero_bool w) (plainElem_bool Tryz.underlying4 false) (keyOf_int_mk Tryz.underlying3 hw)
  obtain ⟨b, rfl, hb⟩ := elem_bool_inv Tryz.underlying4 hv
  rw [Sd_at] at hb
  simp only [Prod.mk.injEq, DataW.lit.injEq, Lit.bool.injEq] at hb
  rw [hb.1]
  exact hrun
theorem wf_key {x : Int} (h : 0 ≤ x ∧ x ≤ 1000000) : (Lit.int .i64 x).wf = true := by
  have h1 : IntKind.i64.min = -9223372036854775808 := by decide
  have h2 : IntKind.i64.max = 9223372036854775807 := by decide
  simp [Lit.wf, h1, h2]
  omega

theorem take_snoc {l : List Int} {k : Nat} (h : k < l.length) : l.take (k + 1) = l.take k ++ [l[k]] := List.take_succ_eq_append_getElem h
theorem nodup_snoc {l : List Int} {x : Int} (h : l.Nodup) (hx : x ∉ l) : (l ++ [x]).Nodup := by
  rw [List.nodup_append]
  exact ⟨h, by simp, fun a ha b hb => by simp only [List.mem_singleton] at hb; subst hb; exact fun e => hx (by rw [← e]; exact ha)⟩
theorem not_nodup {l : List Int} {k : Nat} (h : k < l.length) (hx : l[k] ∈ l.take k) : ¬ l.Nodup := fun hn => by
  have h2 : (l.take (k + 1)).Nodup := hn.sublist (List.take_sublist _ _)
  rw [take_snoc h, List.nodup_append] at h2
  exact h2.2.2 _ hx _ (by simp) rfl
theorem all_take {l : List Int} {p : Int → Prop} {k : Nat} (h : ∀ x ∈ l.take k, p x) (hk : k < l.length) (hp : p l[k]) : ∀ x ∈ l.take (k + 1), p x := by
  rw [take_snoc hk]
  intro x hx
  rcases List.mem_append.1 hx with e | e
  · exact h x e
  · simp only [List.mem_singleton] at e
    rw [e]; exact hp

set_option maxHeartbeats 2000000 in
set_option maxRecDepth 100000 in
theorem gcheck_any (A : Option Addr) (n c : Nat) (l : List Int) (w : World) (h : IS w A n c l) :
    Calls Tryz.prog 74 #[.slice A n c] w fun e w' => e = .returned (I (unl l)) ∧ Below w.heap.size w w' := by
  have hl := h.len
  by_cases hn : 200 < n
  · have hu := Lib.hid (show unl l = 2 by unfold unl; rw [if_pos (by omega)])
    clear h hl
    go_enter Tryz.func74, Tryz.ntmps74
    go_wp2
    go_ret
    exact ⟨by rw [hu.out]; rfl, Below.refl _ _⟩
  have hdat : 0 < n → ∃ b off, A = some ⟨b, off, none⟩ ∧ b < w.heap.size ∧ ∀ i (hi : i < n), w.cell? ⟨b, off + i, none⟩ = some (I (l[i]?.getD 0)) := fun h0 => by
    obtain ⟨b, off, e, hb, hc⟩ := h.rd.2 h0
    exact ⟨b, off, e, hb, fun i hi => by simpa using hc i hi 0 (by omega)⟩
  obtain ⟨b, off, hA⟩ : ∃ b off, 0 < n → A = some ⟨b, off, none⟩ ∧ b < w.heap.size ∧ ∀ i (hi : i < n), w.cell? ⟨b, off + i, none⟩ = some (I (l[i]?.getD 0)) := by
    by_cases h0 : 0 < n
    · obtain ⟨b, off, e⟩ := hdat h0
      exact ⟨b, off, fun _ => e⟩
    · exact ⟨0, 0, fun h1 => absurd h1 h0⟩
  have HA := Lib.hid hA
  have HL := Lib.hid hl
  have hn2 : n ≤ 200 := by omega
  clear h hl hdat hA
  have hmm := @run_makeMap Tryz.prog
  go_enter Tryz.func74, Tryz.ntmps74
  go_wp2
  go_loopw [13] (fun i wr => ∃ k : Nat, k ≤ n ∧ i = .int .i64 k ∧ wr = w ∧ ∀ x ∈ l.take k, 0 ≤ x ∧ x ≤ 1000000) (fun i _ => n - (intOf i).toNat)
  case atStart => exact ⟨0, Nat.zero_le _, rfl, rfl, by simp⟩
  case round =>
    obtain ⟨k, hk, rfl, rfl, hall⟩ := hrel
    have HK := Lib.hid hall
    clear hall
    by_cases hlt : k < n
    · obtain ⟨rfl, hb, hc⟩ := HA.out (by omega)
      have hkl : k < l.length := by rw [HL.out]; exact hlt
      have hck : wr.cell? ⟨b, off + k, none⟩ = some (I l[k]) := by rw [hc k hlt]; simp [List.getElem?_eq_getElem hkl]
      clear hc
      generalize hx : l[k] = x at hck
      have HX := Lib.hid hx
      clear hx
      by_cases hb1 : 0 ≤ x
      · by_cases hb2 : x ≤ 1000000
        · go_wp2
          go_roundw
          case rel => exact ⟨k + 1, by omega, by go_num, by first | exact rfl | trivial, all_take HK.out hkl (by rw [HX.out]; exact ⟨hb1, hb2⟩)⟩
          case measure => simp [intOf]; omega
        · have hu := Lib.hid (show unl l = 3 by
            unfold unl
            rw [if_neg (by rw [HL.out]; omega), if_neg]
            intro hq
            have := hq x (by rw [← HX.out]; exact List.getElem_mem hkl)
            omega)
          go_wp2
          go_ret
          exact ⟨by rw [hu.out]; rfl, Below.refl _ _⟩
      · have hu := Lib.hid (show unl l = 3 by
          unfold unl
          rw [if_neg (by rw [HL.out]; omega), if_neg]
          intro hq
          have := hq x (by rw [← HX.out]; exact List.getElem_mem hkl)
          omega)
        go_wp2
        go_ret
        exact ⟨by rw [hu.out]; rfl, Below.refl _ _⟩
    · skip
      have HALL := Lib.hid (show ∀ x ∈ l, 0 ≤ x ∧ x ≤ 1000000 by
        have := HK.out
        rwa [List.take_of_length_le (by rw [HL.out]; omega)] at this)
      clear HK
      go_wp2
      go_loopg [27] n (fun m i wr' => ∃ j : Nat, j ≤ n ∧ n - j ≤ m ∧ i = .int .i64 j ∧ wr'.ownsMap Tryz.prog 3 (plainElem Tryz.prog 4) wr.heap.size j (Sd (l.take j)) ∧ Below wr.heap.size wr wr' ∧ (l.take j).Nodup)
      case atStart => exact ⟨0, Nat.zero_le _, by omega, rfl, by simpa [Sd] using World.ownsMap_made _ _ _ _, (Below.refl _ _).alloc (Nat.le_refl _) _, by simp⟩
      case round =>
        obtain ⟨j, hj, hjm, rfl, hown, hnx, hnd⟩ := hrel
        have HND := Lib.hid hnd
        have HNX := Lib.hid hnx
        have HOW := Lib.hid hown
        have hsz := hnx.size
        clear hnd hnx hown
        by_cases hjn : j < n
        · obtain ⟨rfl, hb, hc⟩ := HA.out (by omega)
          have hjl : j < l.length := by rw [HL.out]; exact hjn
          have hcj : wr.cell? ⟨b, off + j, none⟩ = some (I l[j]) := by rw [HNX.out.cell (by exact hb), hc j hjn]; simp [List.getElem?_eq_getElem hjl]
          clear hc
          have hxr := HALL.out l[j] (List.getElem_mem hjl)
          have hwf := wf_key hxr
          have hlook := look_seen HOW.out hwf
          by_cases hm : l[j] ∈ l.take j
          · have hu := Lib.hid (show unl l = 5 by
              unfold unl
              rw [if_neg (by rw [HL.out]; omega), if_pos HALL.out, if_neg (not_nodup hjl hm)])
            have hmt : decide (l[j] ∈ l.take j) = true := by simp [hm]
            rw [hmt] at hlook
            clear hmt hm hwf hxr
            generalize l[j] = x at hcj hlook
            go_wp2
            go_ret
            exact ⟨by rw [hu.out]; rfl, HNX.out⟩
          · have hmf : decide (l[j] ∈ l.take j) = false := by simp [hm]
            rw [hmf] at hlook
            have HN2 := Lib.hid (show (l.take (j + 1)).Nodup by rw [take_snoc hjl]; exact nodup_snoc HND.out hm)
            have hS := Lib.hid (show Sd (l.take (j + 1)) = (Sd (l.take j)).put (.int .i64 l[j]) (.lit (.bool true)) by rw [take_snoc hjl, Sd_snoc])
            have hkey := keyOf_int_mk Tryz.underlying3 hwf
            clear hmf hm hxr
            generalize l[j] = x at hcj hlook hkey hS
            go_wp2_with (first
              | (at_mapUpdate; refine wpList_mapUpdate_own _ rfl _ _ _ 207 rfl 3 4 keyed_int Tryz.underlying207 (plainElem Tryz.prog 4) _ j _ rfl HOW.out (by unfold maxLen; omega) _ _ _ rfl rfl hkey _ [] (plainElem_bool Tryz.underlying4 true) ?_; intro w1 hown1 hgrow1)
              | go_in)
            have hs1 := hgrow1.size
            go_wp2
            go_roundg (gk - 1)
            case rel => exact ⟨j + 1, by omega, by omega, by go_num, by rw [hS.out]; exact hown1, HNX.out.grown hgrow1 (by omega) (fun i hi => by cases hi; exact Nat.le_refl _), HN2.out⟩
            case measure => omega
        · have hu := Lib.hid (show unl l = 0 by
            have h1 := HND.out
            rw [List.take_of_length_le (by rw [HL.out]; omega)] at h1
            exact unl_zero.2 ⟨by rw [HL.out]; exact hn2, HALL.out, h1⟩)
          go_wp2
          go_ret
          exact ⟨by rw [hu.out]; rfl, HNX.out⟩
end Go.Proofs.YtpnjnedfcdppaaaGreatDoor

/-
  Of: the tree when keys came one behind the other.
-/
namespace Go.Proofs.YtpnjnedfcdppaaaGreatDoor
open Go.RowKit

/-- a list of spots, and no error -/
def RetG (L : PL) (w : World) (e : Ending) (w' : World) : Prop :=
  ∃ A n c, e = .returned (.tuple #[.slice A n c, I 0]) ∧ PS w' A n c L ∧ Below w.heap.size w w'

theorem gerr_ne {E : Int} (h : E ≠ 0) : (E != 0) = true := by simpa using h

set_option maxHeartbeats 1000000 in
theorem Of_bad (A : Option Addr) (n c : Nat) (l : List Int) (w : World) (h : IS w A n c l) (E : Int) (hE : unl l = E) (hE0 : E ≠ 0) :
    Calls Tryz.prog 37 #[.slice A n c] w fun e w' => e = .returned (.tuple #[.slice none 0 0, I E]) ∧ Below w.heap.size w w' := by
  have HK := Lib.hid (gcheck_any A n c l w h)
  have HE := Lib.hid hE
  have hne := gerr_ne hE0
  clear h hE
  go_enter Tryz.func37, Tryz.ntmps37
  go_wp2_with fail
  refine HK.out.mono ?_
  rintro e w1 ⟨rfl, hb⟩
  rw [HE.out]
  go_wp2
  go_ret2
  exact ⟨rfl, hb⟩

/-- a new node in its place -/
theorem Rep.newLeaf2 {B T : Nat} {c : PC} {s : PT} {t : Tr} {x : Int} {w : World} (h1 : Rep B (w.alloc (.cells #[I x, .pointer none, .pointer none] 111)) T c s) (hlt : ∀ y ∈ c.bs T, y < w.heap.size) (hf : ∀ f, c.fill (f s.tr) = t.alter x f) (hx : x ∉ t.ks) (hB : B ≤ w.heap.size) :
    ∃ t' : PT, Rep B ((w.alloc (.cells #[I x, .pointer none, .pointer none] 111)).setCell (c.ad T) (.pointer (some ⟨w.heap.size, 0, none⟩))) T .top t' ∧ t'.tr = t.ins x := by
  have hN : NB (w.alloc (.cells #[I x, .pointer none, .pointer none] 111)) w.heap.size x (.pointer none) (.pointer none) := heap_alloc_new w _
  have hr := Rep.put (B := B) (t := .node w.heap.size .nil x .nil) h1.ctx ⟨hN, trivial, trivial⟩ (by
    simp only [PT.bs, List.append_nil, List.cons_append, List.nil_append, List.nodup_cons]
    refine ⟨fun hm => ?_, (List.nodup_append.1 h1.nd).2.1⟩
    have := hlt w.heap.size hm
    omega) (by
    intro y hy
    simp only [PT.bs, List.append_nil, List.cons_append, List.nil_append, List.mem_cons] at hy
    rcases hy with rfl | hy
    · exact hB
    · exact h1.ge y (List.mem_append.2 (.inr hy)))
  obtain ⟨t', ht', et'⟩ := hr.up
  refine ⟨t', ht', ?_⟩
  rw [et', ← alter_ins hx, ← hf]
  rfl
theorem Rep.newLeaf {B T : Nat} {c : PC} {s : PT} {t : Tr} {x : Int} {w : World} (h : Rep B w T c s) (hf : ∀ f, c.fill (f s.tr) = t.alter x f) (hx : x ∉ t.ks) (hB : B ≤ w.heap.size) :
    ∃ t' : PT, Rep B ((w.alloc (.cells #[I x, .pointer none, .pointer none] 111)).setCell (c.ad T) (.pointer (some ⟨w.heap.size, 0, none⟩))) T .top t' ∧ t'.tr = t.ins x :=
  (h.alloc _).newLeaf2 (fun y hy => h.lt y (List.mem_append.2 (.inr hy))) hf hx hB

set_option maxRecDepth 100000 in
set_option maxHeartbeats 2000000 in
theorem GOf_ok (A : Option Addr) (n c : Nat) (l : List Int) (w : World) (h : IS w A n c l) (hu : unl l = 0) :
    Calls Tryz.prog 37 #[.slice A n c] w (RetG ((gro .nil l).sp 0) w) := by
  have HK := Lib.hid (gcheck_any A n c l w h)
  have HU := Lib.hid hu
  obtain ⟨hl2, hrg, hnd⟩ := unl_zero.1 hu
  have HND := Lib.hid hnd
  have HL := Lib.hid h.len
  have H := Lib.hid h
  have hn2 : n ≤ 200 := by rw [← h.len]; exact hl2
  clear h hu hl2 hrg hnd
  go_enter Tryz.func37, Tryz.ntmps37
  go_wp2_with fail
  refine HK.out.mono ?_
  rintro e w1 ⟨rfl, hb1⟩
  rw [HU.out]
  have H1 := Lib.hid (H.out.below hb1)
  have HB1 := Lib.hid hb1
  clear hb1 HK
  go_wp2
  go_loopg [15] n (fun m i wr => ∃ k : Nat, k ≤ n ∧ n - k ≤ m ∧ i = .int .i64 k ∧ Below w1.heap.size w1 wr ∧ ∃ t : PT, Rep w1.heap.size wr w1.heap.size .top t ∧ t.tr = gro .nil (l.take k))
  case atStart =>
    refine ⟨0, Nat.zero_le _, by omega, rfl, (Below.refl _ _).alloc (Nat.le_refl _) _, .nil, ⟨?_, trivial, ?_, ?_⟩, rfl⟩
    · exact heap_alloc_new w1 _
    · simp [PT.bs, PC.bs]
    · intro x hx
      simp [PT.bs, PC.bs] at hx
      omega
  case round =>
    obtain ⟨k, hk, hkm, rfl, hnx, t, hR, ht⟩ := hrel
    have HNX := Lib.hid hnx
    have HR := Lib.hid hR
    have HT := Lib.hid ht
    have hsz := hnx.size
    clear hnx hR ht
    by_cases hlt : k < n
    · obtain ⟨b, off, rfl, hb, hc⟩ := H1.out.at_ (by omega)
      have hkl : k < l.length := by rw [HL.out]; exact hlt
      have hck : wr.cell? ⟨b, off + k, none⟩ = some (I l[k]) := by rw [HNX.out.cell (by exact hb), hc k hlt]
      have HX := Lib.hid (show l[k] ∉ t.tr.ks by
        rw [HT.out, mem_gro]
        rintro (h | h)
        · simp [Tr.ks] at h
        · exact not_nodup hkl h HND.out)
      have HT2 := Lib.hid (gro_take .nil l k hkl)
      clear hc
      generalize l[k] = x at hck HX HT2
      go_wp2_with fail
      refine (placeOf_any _ _ t x wr HR.out).mono ?_
      rintro e w2 ⟨c1, s, b1, o1, rfl, ea, rfl, hR2, _, hf, _⟩
      have hcl : (w2.alloc (.cells #[I x, .pointer none, .pointer none] 111)).cell? ⟨b1, o1, none⟩ = some (.pointer s.q) := by rw [← ea]; exact (hR2.alloc _).ctx.cell.1
      have hfz : (w2.alloc (.cells #[I x, .pointer none, .pointer none] 111)).frozen? ⟨b1, o1, none⟩ = false := by rw [← ea]; exact (hR2.alloc _).ctx.cell.2
      have hbl : w1.heap.size ≤ b1 := by have := hR2.blk; rw [ea] at this; exact this
      have HNW := Lib.hid (hR2.newLeaf hf HX.out hsz)
      have EA := Lib.hid ea
      clear hR2 hf ea
      go_wp2
      go_roundg (gk - 1)
      case measure => omega
      case rel =>
        obtain ⟨t', hR', et'⟩ := HNW.out
        rw [EA.out] at hR'
        refine ⟨k + 1, by omega, by omega, by go_num, ((HNX.out.alloc hsz _).setCell hbl _), t', hR', ?_⟩
        rw [et', HT2.out, HT.out]
    · have HTL := Lib.hid (show t.tr = gro .nil l by rw [HT.out, List.take_of_length_le (by rw [HL.out]; omega)])
      have HSZ := Lib.hid (show t.tr.size = n by rw [HTL.out, size_gro l .nil HND.out (by simp [Tr.ks]), HL.out]; simp [Tr.size])
      have htop : wr.cell? ⟨w1.heap.size, 0, none⟩ = some (.pointer t.q) := HR.out.ctx.cell.1
      go_wp2_with fail
      refine (spots_any t wr.heap.size (.slice none 0 0) [] 0 wr HR.out.lay (fun x hx => HR.out.lay.lt x hx) (World.ownsRow_nil _ _ _ _) (Nat.le_refl _) (by rw [HSZ.out]; simp; omega) (Int.le_refl _) (by rw [HSZ.out]; omega)).mono ?_
      rintro e w3 ⟨v3, rfl, ho3, hb3⟩
      obtain ⟨A3, c3, rfl, hps, _⟩ := OwnR.ps ho3
      have HPS := Lib.hid hps
      have HB3 := Lib.hid hb3
      clear ho3 hps hb3
      go_wp2
      go_ret2
      have HSL := Lib.hid (show (([] : PL) ++ t.tr.sp 0) = (gro .nil l).sp 0 by rw [HTL.out]; simp)
      refine ⟨A3, _, c3, rfl, ?_, (HB1.out.trans (HNX.out.mono HB1.out.size)).trans (HB3.out.mono (by have := HB1.out.size; omega))⟩
      have := HPS.out
      rw [← HSL.out]
      exact this

end Go.Proofs.YtpnjnedfcdppaaaGreatDoor
