/-
  Joined texts: YtjnkfpagaajfeaaDoorRunC, YtjnkfpagaajfeaaDoorZBase, YtjnkfpagaajfeaaDoorSlR.
-/
import Derived.Test.YtjnkfpagaajfeaaDoorStepsAll
import Derived.Test.YtjnkfpagaajfeaaDoorZStand
import Derived.Test.YtjnkfpagaajfeaaDoorCopy
import Derived.Test.YtjnkfpagaajfeaaDoorSRow
import Derived.Lib.AppendZeros
/-
  What Run leads to is right: plain lists.
-/
namespace Go.Proofs.YtjnkfpagaajfeaaDoor
open Go.RowKit

theorem chk_doL {l : PL} (h : chk l = 0) (kind key val : Int) : chk (doL l kind key val) = 0 := by
  unfold doL
  rw [if_neg (by simpa using h)]
  cases ho : opB kind key with
  | false => simpa using h
  | true =>
    rw [if_neg (by simp)]
    split
    · rename_i hk
      subst hk
      have hk : keyB key = true := by simpa [opB] using ho
      rw [putL_eq]
      split
      · rename_i hr
        obtain ⟨h1, h2⟩ := (chk_zero l).1 h
        have hk' : 0 ≤ key ∧ key ≤ 1000000 := by simpa [keyB] using hk
        refine (chk_zero _).2 ⟨?_, srt_ins l key val 0 h2 hk'.1 hk'.2⟩
        rw [len_ins]
        split
        · exact h1
        · rcases hr with hr | hr
          · contradiction
          · omega
      · exact h
    · split
      · rw [cutL_eq]
        obtain ⟨h1, h2⟩ := (chk_zero l).1 h
        refine (chk_zero _).2 ⟨?_, srt_del l key 0 h2⟩
        rw [len_del]
        split <;> omega
      · exact h
theorem chk_runR (ops : List OP) : chk (runR ops).1 = 0 := by
  have h : ∀ (s : PL × List An), chk s.1 = 0 → chk (ops.foldl stepR s).1 = 0 := by
    induction ops with
    | nil => intro s hs; exact hs
    | cons o t ih => intro s hs; exact ih _ (chk_doL hs _ _ _)
  exact h ([], []) (by decide)

end Go.Proofs.YtjnkfpagaajfeaaDoor

/-
  ZIPPED TREES: keys, rows of pairs of the call's own; what the laws share. Nothing is walked here.
-/
namespace Go.Proofs.YtjnkfpagaajfeaaDoor
open Go.RowKit

theorem zpair_info : (Tryd.prog.info? 46).map (fun i => (i.zero, i.size, i.bytes)) = some (some (.agg #[I 0, I 0]), 2, 16) := by kernel_rfl
theorem zsrc_one (w : World) (k d : Int) (t : Nat) : Src (w.alloc (.cells #[I k, I d] t)) (some ⟨w.heap.size, 0, none⟩) 1 [(k, d)] := by
  refine ⟨rfl, fun _ => ⟨_, rfl, fun j u hu => ?_⟩⟩
  match j with
  | 0 => simp [flat] at hu; simp [Addr.add, ← hu]
  | 1 => simp [flat] at hu; simp [Addr.add, ← hu]
  | j + 2 => simp [flat] at hu
theorem zpl_take (ks : List Int) (k : Nat) (h : k < ks.length) : zpl (ks.take (k + 1)) = zpl (ks.take k) ++ [(ks[k], (ht ks[k] : Int))] := by
  unfold zpl
  rw [List.take_succ_eq_append_getElem h, List.map_append]
  rfl
theorem zrunR_200 (ops : List OP) : (runR ops).1.length ≤ 200 := chk_len (chk_runR ops)
theorem srt_zpl : ∀ (l : PL) (lo : Int), Srt lo l → Srt lo (zpl (kys l))
  | [], _, _ => trivial
  | p :: t, lo, h => ⟨h.1, h.2.1, srt_zpl t _ h.2.2⟩
theorem chk_zpl {l : PL} (h : chk l = 0) : chk (zpl (kys l)) = 0 := by
  obtain ⟨h1, h2⟩ := (chk_zero l).1 h
  exact (chk_zero _).2 ⟨by rw [zpl_kys_len]; exact h1, srt_zpl l 0 h2⟩
theorem zks {t : Tr} {ks : List Int} (h : Hp t (zpl ks)) : t.ks = ks := by
  rw [hp_ks h]
  unfold zpl
  rw [List.map_map]
  exact List.map_id'' (fun _ => rfl) ks
theorem zks_at {t : Tr} {ks : List Int} (h : Hp t (zpl ks)) (k : Nat) (hk : k < ks.length) : ky (t.sp 0) k = ks[k] := by
  have hs : k < t.size := by rw [← hp_len h, zpl_length]; exact hk
  rw [ks_ky t 0 k hs]
  have := zks h
  simp only [this]
theorem kys_sp {t : Tr} {ks : List Int} (h : Hp t (zpl ks)) (d : Int) : kys (t.sp d) = ks := (sp_ks t d).trans (zks h)
theorem zown_lt {w : World} {B t : Nat} {v : Value} {L : PL} (h : OwnR w B t v L) : ∀ g, v.ownBlock = some g → g < w.heap.size := by
  intro g hg
  rcases h.2 with ⟨rfl, _⟩ | ⟨g', cap, cur, rfl, _, hh, _⟩
  · simp [Value.ownBlock] at hg
  · simp [Value.ownBlock] at hg
    subst hg
    rcases Nat.lt_or_ge g' w.heap.size with h1 | h1
    · exact h1
    · rw [Array.getElem?_eq_none h1] at hh; cases hh
theorem zcell_lt {w : World} {a : Addr} {v : Value} (h : w.cell? a = some v) : a.block < w.heap.size := by
  rcases Nat.lt_or_ge a.block w.heap.size with h1 | h1
  · exact h1
  · unfold World.cell? at h; rw [Array.getElem?_eq_none h1] at h; cases h
theorem zck {w : World} {a : Addr} {v : Value} (h : w.cell? a = some v) (o : Obj) : (w.alloc o).cell? a = some v := (((Below.refl w.heap.size w).alloc (Nat.le_refl _) o).cell (zcell_lt h)).trans h

end Go.Proofs.YtjnkfpagaajfeaaDoor

/-
  SLICES OF SLICES OF PAIRS. Nothing of the program.
-/
namespace Go.Proofs.YtjnkfpagaajfeaaDoor
open Go.RowKit

theorem grow_own (w : World) (e : TypeId) (n : Nat) (h0 : 0 < n) (hn : n ≤ 1000) :
    (w.drew.alloc (.cells (Builtin.zeroCells (Value.agg #[I 0, I 0]).cells n ++ Builtin.zeroCells (Value.agg #[I 0, I 0]).cells (grownCap w n 0 e - n)) e)).ownsRow w.heap.size e 2 (.slice (some ⟨w.heap.size, 0, none⟩) 0 (grownCap w n 0 e)) ([] : PL).length (flat []) := by
  have hge := grownCap_ge w n 0 e
  refine ⟨rfl, .inr ⟨w.heap.size, grownCap w n 0 e, _, rfl, Nat.le_refl _, heap_alloc_new w.drew _, Nat.zero_le _, grownCap_le_maxLen w n 0 e (by unfold maxLen; omega), ?_, rfl⟩⟩
  rw [Array.size_append, size_zeroCells, size_zeroCells]
  simp [Value.cells]
  omega

/-- a slice of spots, with what it reads as -/
structure Sl where
  A : Option Addr
  n : Nat
  c : Nat
  L : PL
abbrev Sl.val (s : Sl) : Value := .slice s.A s.n s.c
abbrev sl0 : Sl := ⟨none, 0, 0, []⟩
def Sl.ok (w : World) (s : Sl) : Prop := PS w s.A s.n s.c s.L
/-- a slice of slices of spots -/
structure RS (w : World) (A : Option Addr) (m c : Nat) (es : List Sl) : Prop where
  len : es.length = m
  rd : Rd w w.heap.size 1 A m c (fun i _ => (es[i]?.getD sl0).val)
  each : ∀ s ∈ es, s.ok w
theorem RS.below {w w' : World} {A : Option Addr} {m c : Nat} {es : List Sl} (h : RS w A m c es) (hb : Below w.heap.size w w') : RS w' A m c es := ⟨h.len, h.rd.below hb, fun s hs => PS.below (h.each s hs) hb⟩
theorem RS.at_ {w : World} {A : Option Addr} {m c : Nat} {es : List Sl} (h : RS w A m c es) (hm : 0 < m) :
    ∃ b off, A = some ⟨b, off, none⟩ ∧ b < w.heap.size ∧ ∀ i (hi : i < m), w.cell? ⟨b, off + i, none⟩ = some (es[i]'(by rw [h.len]; exact hi)).val := by
  obtain ⟨b, off, e, hb, hc⟩ := h.rd.2 hm
  refine ⟨b, off, e, hb, fun i hi => ?_⟩
  have hl : i < es.length := by rw [h.len]; exact hi
  have h0 := hc i hi 0 (by omega)
  simpa [List.getElem?_eq_getElem hl] using h0

def sumN (es : List Sl) : Nat := es.foldr (fun s n => s.n + n) 0
def catL (es : List Sl) : PL := es.flatMap Sl.L
theorem sumN_append (a b : List Sl) : sumN (a ++ b) = sumN a + sumN b := by
  induction a with
  | nil => simp [sumN]
  | cons s t ih => simp only [sumN, List.cons_append, List.foldr_cons] at *; omega
theorem sumN_step (es : List Sl) (k : Nat) (h : k < es.length) : sumN (es.take (k + 1)) = sumN (es.take k) + es[k].n := by
  rw [List.take_succ_eq_append_getElem h, sumN_append]
  simp [sumN]
theorem sumN_take (es : List Sl) (k : Nat) : sumN (es.take k) ≤ sumN es := by
  conv => rhs; rw [← List.take_append_drop k es]
  rw [sumN_append]
  omega
theorem catL_step (es : List Sl) (k : Nat) (h : k < es.length) : catL (es.take (k + 1)) = catL (es.take k) ++ es[k].L := by
  unfold catL
  rw [List.take_succ_eq_append_getElem h, List.flatMap_append]
  simp only [List.flatMap_cons, List.flatMap_nil, List.append_nil]
theorem catL_len (es : List Sl) (w : World) (h : ∀ s ∈ es, s.ok w) : (catL es).length = sumN es := by
  induction es with
  | nil => rfl
  | cons s t ih =>
    have := (h s (by simp)).len
    have e : catL (s :: t) = s.L ++ catL t := rfl
    have e2 : sumN (s :: t) = s.n + sumN t := rfl
    rw [e, e2, List.length_append, ih (fun x hx => h x (by simp [hx])), this]

end Go.Proofs.YtjnkfpagaajfeaaDoor
