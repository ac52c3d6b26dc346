/-
  nodeFirst; shape.Order, by way 1.
-/
import Derived.Test.YtgpbafalciccdaaSTurn2
namespace Go.Proofs.Ytgpbafalciccdaa
open Go.RowKit

/-- a slice of the call's own that reads as numbers -/
def OwnI (w : World) (base : Nat) (v : Value) (L : List Int) : Prop := w.ownsRow base 3 1 v L.length (L.map I)
theorem own_below {w w' : World} {base e s n : Nat} {v : Value} {xs : List Value} (h : w.ownsRow base e s v n xs) (hb : Below w.heap.size w w') : w'.ownsRow base e s v n xs := by
  refine ⟨h.1, ?_⟩
  rcases h.2 with h0 | ⟨g, cap, cur, h1, h2, h3, h4⟩
  · exact .inl h0
  · refine .inr ⟨g, cap, cur, h1, h2, ?_, h4⟩
    rw [hb.block g ?_]
    · exact h3
    · rcases Nat.lt_or_ge g w.heap.size with hlt | hge
      · exact hlt
      · rw [Array.getElem?_eq_none hge] at h3; cases h3
theorem own_ge1 {w : World} {base e s n : Nat} {v : Value} {xs : List Value} (h : w.ownsRow base e s v n xs) : ∀ g, v.ownBlock = some g → base ≤ g := by
  intro g hg
  rcases h.2 with ⟨rfl, _⟩ | ⟨g', cap, cur, rfl, hb, _⟩
  · simp [Value.ownBlock] at hg
  · simp [Value.ownBlock] at hg; omega
theorem own_mono1 {w : World} {B B' e s n : Nat} {v : Value} {xs : List Value} (h : w.ownsRow B e s v n xs) (hB : B' ≤ B) : w.ownsRow B' e s v n xs := by
  refine ⟨h.1, ?_⟩
  rcases h.2 with h0 | ⟨g, cap, cur, h1, h2, h3⟩
  · exact .inl h0
  · exact .inr ⟨g, cap, cur, h1, by omega, h3⟩
theorem OwnI.is_ {w : World} {base : Nat} {v : Value} {L : List Int} (h : OwnI w base v L) : ∃ A c, v = .slice A L.length c ∧ IS w A L.length c L ∧ ∀ ad, A = some ad → base ≤ ad.block := by
  rcases h.2 with ⟨rfl, h0⟩ | ⟨g, cap, cur, rfl, hb, hg, hnc, _, hsz, htk⟩
  · have hl : L = [] := List.eq_nil_of_length_eq_zero h0
    subst hl
    exact ⟨none, 0, rfl, ⟨rfl, Rd.none_⟩, fun _ h => by cases h⟩
  · refine ⟨_, cap, rfl, ⟨rfl, hnc, fun _ => ⟨g, 0, rfl, ?_, fun i hi j hj => ?_⟩⟩, fun ad h => by cases h; exact hb⟩
    · rcases Nat.lt_or_ge g w.heap.size with hlt | hge
      · exact hlt
      · rw [Array.getElem?_eq_none hge] at hg; cases hg
    · obtain rfl : j = 0 := by omega
      rw [cell_of_row _ _ _ _ _ _ hg]
      have : (L.map I)[i]? = some (I L[i]) := by simp [List.getElem?_eq_getElem hi]
      rw [← htk, List.getElem?_take, if_pos (by omega)] at this
      simpa [List.getElem?_eq_getElem hi] using this
theorem IS.drop {w : World} {n c c' : Nat} {A : Option Addr} {l : List Int} (h : IS w A n c l) (k : Nat) (hk : k ≤ n) (sp : Option Addr) (hs : k < n → ∀ b off, A = some ⟨b, off, none⟩ → sp = some ⟨b, off + k, none⟩) (hc' : n - k ≤ c') : IS w sp (n - k) c' (l.drop k) := by
  refine ⟨by simp [h.len], hc', fun h0 => ?_⟩
  obtain ⟨b, off, e, hb, hc⟩ := h.rd.2 (by omega)
  refine ⟨b, off + k, hs (by omega) b off e, hb, fun i hi j hj => ?_⟩
  have := hc (k + i) (by omega) j hj
  rw [show off + ((k + i) * 1 + j) = off + k + (i * 1 + j) by omega] at this
  rw [this]
  simp [List.getElem?_drop]
theorem IS.take {w : World} {n c : Nat} {A : Option Addr} {l : List Int} (h : IS w A n c l) (k : Nat) (hk : k ≤ n) : IS w A k c (l.take k) := by
  refine ⟨by simp [h.len]; omega, by have := h.rd.1; omega, fun h0 => ?_⟩
  obtain ⟨b, off, e, hb, hc⟩ := h.rd.2 (by omega)
  refine ⟨b, off, e, hb, fun i hi j hj => ?_⟩
  rw [hc i (by omega) j hj]
  simp [List.getElem?_take, hi]
theorem IS.alloc {w : World} {n c : Nat} {A : Option Addr} {l : List Int} (h : IS w A n c l) (o : Obj) : IS (w.alloc o) A n c l := h.below ((Below.refl _ _).alloc (Nat.le_refl _) o)

theorem one_I (k : Int) : ∀ u ∈ [I k], u.oneCell' = true := by
  intro u hu
  simp at hu
  subst hu
  rfl

/-- node first -/
def Tr.pre : Tr → List Int
  | .nil => []
  | .node a k b => k :: (a.pre ++ b.pre)
theorem pre_length (t : Tr) : t.pre.length = t.size := by induction t <;> simp [Tr.pre, Tr.size, *]; omega

/-- a row of numbers comes back, nothing below base has turned -/
def RetOwn (L : List Int) (base : Nat) (w : World) (e : Ending) (w' : World) : Prop := ∃ v, e = .returned v ∧ OwnI w' base v L ∧ Below base w w'

theorem PS.low {w w' : World} {base n c : Nat} {A : Option Addr} {l : PL} (h : PS w A n c l) (hA : ∀ ad, A = some ad → ad.block < base) (hb : Below base w w') : PS w' A n c l := by
  refine ⟨h.len, h.rd.1, fun hn => ?_⟩
  obtain ⟨b, off, e, hlt, hc⟩ := h.rd.2 hn
  have hbb := hA _ e
  exact ⟨b, off, e, by have := hb.size; exact Nat.lt_of_lt_of_le hlt this, fun i hi j hj => (hb.cell (by exact hbb)).trans (hc i hi j hj)⟩

set_option maxRecDepth 100000 in
set_option maxHeartbeats 2000000 in
theorem nodeFirst_any (t : Tr) : ∀ (A : Option Addr) (n c base : Nat) (d : Int) (v : Value) (K : List Int) (w : World), PS w A n c (t.sp d) → (0 < n → ∀ ad, A = some ad → ad.block < base) → OwnI w base v K → base ≤ w.heap.size → K.length + n ≤ 1000 →
    Calls Try.prog 30 #[v, .slice A n c] w (RetOwn (K ++ t.pre) base w) := by
  induction t with
  | nil =>
    intro A n c base d v K w h hA hown hbase hK
    obtain rfl : n = 0 := by have := h.len; simpa [Tr.sp] using this.symm
    have HO := Lib.hid hown
    clear h hown
    go_enter Try.func30, Try.ntmps30
    go_wp2
    go_ret
    exact ⟨v, rfl, by simpa [Tr.pre] using HO.out, Below.refl _ _⟩
  | node a k b iha ihb =>
    intro A n c base d v K w h hA hown hbase hK
    have hlen : n = a.size + 1 + b.size := by rw [← h.len, sp_length]; rfl
    have hcap := h.rd.1
    have htop := topOf_any A n c _ w h (by omega) (by omega)
    rw [topR_sp] at htop
    obtain ⟨x, hx⟩ : ∃ x, a.size = x := ⟨_, rfl⟩
    have hxn : x < n := by omega
    have HL : Hid (PS w A x c (a.sp (d + 1))) := by
      have := h.take x (by omega)
      rw [← hx, (sp_parts a b k d).1] at this
      rw [← hx]
      exact this
    have HR : Hid (∀ sp c', (x + 1 < n → ∀ b off, A = some ⟨b, off, none⟩ → sp = some ⟨b, off + (x + 1) * 2, none⟩) → n - (x + 1) ≤ c' → PS w sp (n - (x + 1)) c' (b.sp (d + 1))) := fun sp c' h1 h2 => by
      have := h.drop (x + 1) (by omega) sp h1 h2
      rw [← hx, (sp_parts a b k d).2] at this
      rw [← hx]
      exact this
    obtain ⟨bb, off, rfl, hbl, hcs⟩ := h.dat (by omega)
    have hbb : bb < base := hA (by omega) _ rfl
    have HC : Hid (w.cell? ⟨bb, off + x * 2, none⟩ = some (I k)) := by
      show _ = _
      rw [(hcs x hxn).1, ← hx, (sp_root a b k d).2]
    rw [hx] at htop
    have HTOP := Lib.hid htop
    have HO := Lib.hid hown
    have IHA := Lib.hid iha
    have IHB := Lib.hid ihb
    have HX := Lib.hid hx
    have HN := Lib.hid hlen
    have hsb : n - (x + 1) = b.size := by omega
    have HSB := Lib.hid hsb
    have hnb : ((n : Int) == 0) = false := by simp; omega
    have hn1 : n ≤ 1000 := by omega
    obtain ⟨i0, hi, hz0, hz1, hz2⟩ := info_parts int_info
    have HI := Lib.hid hi
    have HZ0 := Lib.hid hz0
    have HZ1 := Lib.hid hz1
    have HZ2 := Lib.hid hz2
    clear h htop hown iha ihb hx hlen hsb hi hz0 hz1 hz2 hcs hA
    go_enter Try.func30, Try.ntmps30
    go_wp2_with fail
    refine HTOP.out.mono ?_
    rintro e w1 ⟨rfl, hb1⟩
    have hc1 : w1.cell? ⟨bb, off + x * 2, none⟩ = some (I k) := (hb1.cell (by exact hbl)).trans HC.out
    have HO1 := Lib.hid (own_below HO.out hb1)
    have hz1 : base ≤ w1.heap.size := Nat.le_trans hbase hb1.size
    have HB1 := Lib.hid (hb1.mono hbase)
    clear hb1
    go_wp2_with (first
      | (at_builtin
         refine wpList_append_own_at _ rfl (.tmp 12) (.tmp 18) 26 rfl base 3 i0 _ 1 8 Try.underlying26 HI.out HZ0.out HZ1.out HZ2.out rfl (by omega) v K.length (K.map I) rfl (own_below HO1.out ((Below.refl _ _).alloc (Nat.le_refl _) _)) ⟨w1.heap.size, 0, none⟩ 1 1 [I k] rfl rfl (cell_one_new _ _ _) (one_I k) (by unfold maxLen; omega) (by omega) (by simp; omega) ?_
         intro v2 w2 hown2 hgrow2 _ _)
      | fail)
    have hb2 : Below base w w2 := ((HB1.out.alloc hz1 _)).grown hgrow2 (by simp; omega) (own_ge1 HO1.out)
    have ho2 : OwnI w2 base v2 (K ++ [k]) := by
      have : (K ++ [k]).length = K.length + 1 := by simp
      unfold OwnI
      rw [this]
      simpa using hown2
    have hz2 : base ≤ w2.heap.size := Nat.le_trans hbase hb2.size
    have HB2 := Lib.hid hb2
    have HO2 := Lib.hid ho2
    clear hown2 hgrow2 hb2 ho2
    refine (IHA.out _ x c base (d + 1) v2 (K ++ [k]) w2 (HL.out.low (fun ad h => by cases h; exact hbb) HB2.out) (fun _ ad h => by cases h; exact hbb) HO2.out hz2 (by simp; omega)).mono ?_
    rintro e w3 ⟨v3, rfl, ho3, hb3⟩
    have HB3 := Lib.hid (HB2.out.trans hb3)
    have HO3 := Lib.hid ho3
    clear hb3 ho3
    go_wp2_with fail
    all_goals
      refine (IHB.out _ (n - (x + 1)) _ base (d + 1) v3 (K ++ [k] ++ a.pre) w3 ((HR.out _ _ ?hs ?hcc).low ?hlow HB3.out) (fun _ => ?hlow2) HO3.out (Nat.le_trans hbase HB3.out.size) ?hl).mono ?_
      case hs =>
        intro hlt b' off' he
        cases he
        first | rfl | (exfalso; omega)
      case hcc => omega
      case hlow => intro ad h; cases h; exact hbb
      case hlow2 => intro ad h; cases h; exact hbb
      case hl => simp [pre_length, HX.out]; omega
      rintro e w4 ⟨v4, rfl, ho4, hb4⟩
      have HB4 := Lib.hid (HB3.out.trans hb4)
      have HO4 := Lib.hid ho4
      clear hb4 ho4
      go_wp2
      go_ret
      exact ⟨v4, rfl, by simpa [Tr.pre] using HO4.out, HB4.out⟩

set_option maxRecDepth 100000 in
set_option maxHeartbeats 1000000 in
theorem Order1_ok (A : Option Addr) (n c : Nat) (l : PL) (t : Tr) (w : World) (h : PS w A n c l) (hT : IsTree l) (ht : l = t.sp 0) :
    Calls Try.prog 19 #[.slice A n c, I 1] w (RetIs t.pre w) := by
  have hn : n ≤ 200 := by have := hT.1; rw [h.len] at this; exact this
  have H := Lib.hid h
  have HCH := Lib.hid (CheckS_is A n c l w h (by omega) 0 (chkS_zero.2 hT))
  have HT := Lib.hid ht
  have hlow : ∀ ad, A = some ad → 0 < n → ad.block < w.heap.size := by
    intro ad e h0
    obtain ⟨b, off, e', hb, _⟩ := h.dat h0
    rw [e'] at e
    cases e
    exact hb
  have HLOW := Lib.hid hlow
  clear h hT ht hlow
  obtain ⟨O, HO, hmk⟩ : ∃ O, Hid (O = .cells ((List.replicate n (0 : Int)).map I).toArray 3) ∧ ∀ w, (Instr.makeSlice 26 (.int .i64 0) (.int .i64 (n : Int))).run Try.prog w = .ok (.slice (some ⟨w.heap.size, 0, none⟩) 0 n) (w.alloc O) :=
    ⟨_, Lib.hid rfl, fun w => run_makeI (P := Try.prog) 26 3 Try.underlying26 int_info 0 n (by omega) (by omega) w⟩
  go_enter Try.func19, Try.ntmps19
  go_wp2_with fail
  refine HCH.out.mono ?_
  rintro e w1 ⟨rfl, hb1⟩
  have HB1 := Lib.hid hb1
  have hz1 := hb1.size
  clear hb1
  go_wp2_with fail
  have hown : OwnI (w1.alloc O) w1.heap.size (.slice (some ⟨w1.heap.size, 0, none⟩) 0 n) [] := by
    rw [HO.out]
    exact ⟨rfl, .inr ⟨w1.heap.size, n, _, rfl, Nat.le_refl _, heap_alloc_new w1 _, Nat.zero_le _, by unfold maxLen; omega, by simp, rfl⟩⟩
  have hps := (H.out.below HB1.out).alloc O
  rw [HT.out] at hps
  refine (nodeFirst_any t A n c w1.heap.size 0 _ [] _ hps (fun h0 ad e => Nat.lt_of_lt_of_le (HLOW.out ad e h0) hz1) hown (by simp) (by simp; omega)).mono ?_
  rintro e w2 ⟨v2, rfl, ho2, hb2⟩
  obtain ⟨A2, c2, rfl, his, hge⟩ := ho2.is_
  have HB2 : Hid (Below w.heap.size w w2) := (HB1.out.alloc hz1 _).trans (hb2.mono hz1)
  have HIS := Lib.hid his
  have HGE := Lib.hid hge
  clear hps ho2 hb2 his hge hown
  go_wp2
  go_ret2
  exact ⟨A2, _, c2, rfl, HIS.out, HB2.out, fun ad h => Nat.le_trans hz1 (HGE.out ad h)⟩

end Go.Proofs.Ytgpbafalciccdaa
