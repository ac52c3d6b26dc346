/-
  Joined texts: YtjnkfpagaajfeaaDoorRunC, YtjnkfpagaajfeaaDoorZBase, YtjnkfpagaajfeaaDoorGRefT.
-/
import Derived.Test.YtjnkfpagaajfeaaDoorStepsAll
import Derived.Test.YtjnkfpagaajfeaaDoorZStand
import Derived.Test.YtjnkfpagaajfeaaDoorChecked
import Derived.Test.YtjnkfpagaajfeaaDoorGPure
import Derived.Deep.LoopGhost
import Derived.Deep.RegionHeld3
import Derived.BigQuiet
import Derived.Deep.QuietTactic
/-
  What Run leads to is right: plain lists.
-/
namespace Go.Proofs.YtjnkfpagaajfeaaDoor
open Go.RowKit

theorem chk_doL {l : PL} (h : chk l = 0) (kind key val : Int) : chk (doL l kind key val) = 0 := by
  unfold doL
  rw [if_neg (by simpa using h)]
  cases ho : opB kind key with
  | false => simpa using h
  | true =>
    rw [if_neg (by simp)]
    split
    · rename_i hk
      subst hk
      have hk : keyB key = true := by simpa [opB] using ho
      rw [putL_eq]
      split
      · rename_i hr
        obtain ⟨h1, h2⟩ := (chk_zero l).1 h
        have hk' : 0 ≤ key ∧ key ≤ 1000000 := by simpa [keyB] using hk
        refine (chk_zero _).2 ⟨?_, srt_ins l key val 0 h2 hk'.1 hk'.2⟩
        rw [len_ins]
        split
        · exact h1
        · rcases hr with hr | hr
          · contradiction
          · omega
      · exact h
    · split
      · rw [cutL_eq]
        obtain ⟨h1, h2⟩ := (chk_zero l).1 h
        refine (chk_zero _).2 ⟨?_, srt_del l key 0 h2⟩
        rw [len_del]
        split <;> omega
      · exact h
theorem chk_runR (ops : List OP) : chk (runR ops).1 = 0 := by
  have h : ∀ (s : PL × List An), chk s.1 = 0 → chk (ops.foldl stepR s).1 = 0 := by
    induction ops with
    | nil => intro s hs; exact hs
    | cons o t ih => intro s hs; exact ih _ (chk_doL hs _ _ _)
  exact h ([], []) (by decide)

end Go.Proofs.YtjnkfpagaajfeaaDoor

/-
  ZIPPED TREES: keys, rows of pairs of the call's own; what the laws share. Nothing is walked here.
-/
namespace Go.Proofs.YtjnkfpagaajfeaaDoor
open Go.RowKit

theorem zpair_info : (Tryd.prog.info? 46).map (fun i => (i.zero, i.size, i.bytes)) = some (some (.agg #[I 0, I 0]), 2, 16) := by kernel_rfl
theorem zsrc_one (w : World) (k d : Int) (t : Nat) : Src (w.alloc (.cells #[I k, I d] t)) (some ⟨w.heap.size, 0, none⟩) 1 [(k, d)] := by
  refine ⟨rfl, fun _ => ⟨_, rfl, fun j u hu => ?_⟩⟩
  match j with
  | 0 => simp [flat] at hu; simp [Addr.add, ← hu]
  | 1 => simp [flat] at hu; simp [Addr.add, ← hu]
  | j + 2 => simp [flat] at hu
theorem zpl_take (ks : List Int) (k : Nat) (h : k < ks.length) : zpl (ks.take (k + 1)) = zpl (ks.take k) ++ [(ks[k], (ht ks[k] : Int))] := by
  unfold zpl
  rw [List.take_succ_eq_append_getElem h, List.map_append]
  rfl
theorem zrunR_200 (ops : List OP) : (runR ops).1.length ≤ 200 := chk_len (chk_runR ops)
theorem srt_zpl : ∀ (l : PL) (lo : Int), Srt lo l → Srt lo (zpl (kys l))
  | [], _, _ => trivial
  | p :: t, lo, h => ⟨h.1, h.2.1, srt_zpl t _ h.2.2⟩
theorem chk_zpl {l : PL} (h : chk l = 0) : chk (zpl (kys l)) = 0 := by
  obtain ⟨h1, h2⟩ := (chk_zero l).1 h
  exact (chk_zero _).2 ⟨by rw [zpl_kys_len]; exact h1, srt_zpl l 0 h2⟩
theorem zks {t : Tr} {ks : List Int} (h : Hp t (zpl ks)) : t.ks = ks := by
  rw [hp_ks h]
  unfold zpl
  rw [List.map_map]
  exact List.map_id'' (fun _ => rfl) ks
theorem zks_at {t : Tr} {ks : List Int} (h : Hp t (zpl ks)) (k : Nat) (hk : k < ks.length) : ky (t.sp 0) k = ks[k] := by
  have hs : k < t.size := by rw [← hp_len h, zpl_length]; exact hk
  rw [ks_ky t 0 k hs]
  have := zks h
  simp only [this]
theorem kys_sp {t : Tr} {ks : List Int} (h : Hp t (zpl ks)) (d : Int) : kys (t.sp d) = ks := (sp_ks t d).trans (zks h)
theorem zown_lt {w : World} {B t : Nat} {v : Value} {L : PL} (h : OwnR w B t v L) : ∀ g, v.ownBlock = some g → g < w.heap.size := by
  intro g hg
  rcases h.2 with ⟨rfl, _⟩ | ⟨g', cap, cur, rfl, _, hh, _⟩
  · simp [Value.ownBlock] at hg
  · simp [Value.ownBlock] at hg
    subst hg
    rcases Nat.lt_or_ge g' w.heap.size with h1 | h1
    · exact h1
    · rw [Array.getElem?_eq_none h1] at hh; cases hh
theorem zcell_lt {w : World} {a : Addr} {v : Value} (h : w.cell? a = some v) : a.block < w.heap.size := by
  rcases Nat.lt_or_ge a.block w.heap.size with h1 | h1
  · exact h1
  · unfold World.cell? at h; rw [Array.getElem?_eq_none h1] at h; cases h
theorem zck {w : World} {a : Addr} {v : Value} (h : w.cell? a = some v) (o : Obj) : (w.alloc o).cell? a = some v := (((Below.refl w.heap.size w).alloc (Nat.le_refl _) o).cell (zcell_lt h)).trans h

end Go.Proofs.YtjnkfpagaajfeaaDoor

/-
  package hedgref's trees: Least, Leaf, Unleafed: trees in memory that nothing changes.
-/
namespace Go.Proofs.YtjnkfpagaajfeaaDoor
open Go.RowKit

/-- the pointer q is the tree t -/
def RT (w : World) : Option Addr → Tr → Prop
  | q, .nil => q = none
  | q, .node a k b => ∃ g qa qb, q = some ⟨g, 0, none⟩ ∧ w.heap[g]? = some (.cells #[I k, .pointer qa, .pointer qb] 75 (0, 0)) ∧ RT w qa a ∧ RT w qb b
theorem RT.below {w w' : World} (hb : Below w.heap.size w w') : ∀ {t : Tr} {q : Option Addr}, RT w q t → RT w' q t := by
  intro t
  induction t with
  | nil => exact fun {q} h => h
  | node a k b iha ihb =>
    rintro q ⟨g, qa, qb, rfl, hg, ha, hb'⟩
    exact ⟨g, qa, qb, rfl, (hb.block g (Array.getElem?_eq_some_iff.1 hg).1).trans hg, iha ha, ihb hb'⟩
theorem RT.drew {w : World} {t : Tr} {q : Option Addr} (h : RT w q t) : RT w.drew q t := h.below (Below.refl _ _).drew
theorem RT.alloc {w : World} {t : Tr} {q : Option Addr} (h : RT w q t) (o : Obj) : RT (w.alloc o) q t := h.below ((Below.refl _ _).alloc (Nat.le_refl _) _)
theorem tree_cells {w : World} {g : Nat} {k : Int} {x y : Value} (h : w.heap[g]? = some (.cells #[I k, x, y] 75 (0, 0))) :
    g < w.heap.size ∧ w.cell? ⟨g, 0, none⟩ = some (I k) ∧ w.cell? ⟨g, 1, none⟩ = some x ∧ w.cell? ⟨g, 2, none⟩ = some y := by
  refine ⟨(Array.getElem?_eq_some_iff.1 h).1, ?_, ?_, ?_⟩ <;> simp [World.cell?, h]
/-- a new node over two trees -/
theorem RT.box {w : World} {a b : Tr} {qa qb : Option Addr} (k : Int) (ha : RT w qa a) (hb : RT w qb b) : RT (w.alloc (.cells #[I k, .pointer qa, .pointer qb] 75)) (some ⟨w.heap.size, 0, none⟩) (.node a k b) :=
  ⟨w.heap.size, qa, qb, rfl, heap_alloc_new w _, ha.alloc _, hb.alloc _⟩
theorem RT.nil_iff {w : World} {q : Option Addr} {t : Tr} (h : RT w q t) : q = none ↔ t = .nil := by
  cases t with
  | nil => exact ⟨fun _ => rfl, fun _ => h⟩
  | node a k b =>
    obtain ⟨g, qa, qb, rfl, _⟩ := h
    simp

theorem cell_lt1 {w : World} {a : Addr} {v : Value} (h : w.cell? a = some v) : a.block < w.heap.size := by
  rcases Nat.lt_or_ge a.block w.heap.size with h1 | h1
  · exact h1
  · simp [World.cell?, Array.getElem?_eq_none h1] at h
theorem ck {w : World} {a : Addr} {v : Value} (h : w.cell? a = some v) (o : Obj) : (w.alloc o).cell? a = some v := (((Below.refl w.heap.size w).alloc (Nat.le_refl _) o).cell (cell_lt1 h)).trans h
theorem ckd {w : World} {a : Addr} {v : Value} (h : w.cell? a = some v) (o : Obj) : (w.drew.alloc o).cell? a = some v := ck (w := w.drew) h o

/-- a tree is told -/
def RetT (t : Tr) (w : World) (e : Ending) (w' : World) : Prop := ∃ q, e = .returned (.pointer q) ∧ RT w' q t ∧ Below w.heap.size w w'

end Go.Proofs.YtjnkfpagaajfeaaDoor
