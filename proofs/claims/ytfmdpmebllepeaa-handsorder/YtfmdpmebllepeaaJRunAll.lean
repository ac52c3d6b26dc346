/-
  What Run answers, whatever it is given; deeds that are told, where they lie.
-/
import Derived.Test.YtfmdpmebllepeaaJRunH
import Derived.Maps.OwnSet
namespace Go.Proofs.Ytfmdpmebllepeaa
open Go.RowKit Go.Maps

/-- deeds that are told, where they lie -/
structure DR (w : World) (A : Option Addr) (n : Nat) (L : List Dn) : Prop where
  len : L.length = n
  at_ : 0 < n → ∃ g, A = some ⟨g, 0, none⟩ ∧ g < w.heap.size ∧ ∀ i (hi : i < L.length) k, k < 5 → w.cell? ⟨g, i * 5 + k, none⟩ = (dcells L[i])[k]?
theorem DR.below {w w' : World} {A : Option Addr} {n : Nat} {L : List Dn} (h : DR w A n L) (hb : Below w.heap.size w w') : DR w' A n L := by
  refine ⟨h.len, fun h0 => ?_⟩
  obtain ⟨g, e, hg, hc⟩ := h.at_ h0
  exact ⟨g, e, Nat.lt_of_lt_of_le hg hb.size, fun i hi k hk => (hb.cell (p := ⟨g, i * 5 + k, none⟩) hg).trans (hc i hi k hk)⟩
theorem OwnD.dr {w : World} {base : Nat} {v : Value} {L : List Dn} (h : OwnD w base v L) : ∃ A c, v = .slice A L.length c ∧ DR w A L.length L := by
  obtain ⟨A, c, rfl, hA⟩ := h.is_
  refine ⟨A, c, rfl, rfl, fun h0 => ?_⟩
  obtain ⟨g, rfl⟩ : ∃ g, A = some ⟨g, 0, none⟩ := by
    rcases hA with e | e
    · omega
    · exact e
  obtain ⟨cs, hcs, hct⟩ : ∃ cs : Array Value, w.heap[g]? = some (.cells cs 37 (0, 0)) ∧ cs.toList.take (L.length * 5) = flatD L := by
    rcases h.2 with ⟨h0, _⟩ | ⟨g', cap, cur, h0, h2, h3, h4, h5, h6, h7⟩
    · cases h0
    · cases h0
      refine ⟨cur, h3, ?_⟩
      exact h7
  refine ⟨g, rfl, jblk hcs, fun i hi k hk => ?_⟩
  rw [← flatD_at L i k hi hk, ← hct, List.getElem?_take, if_pos (by omega), jcell hcs]
  simp
def RunAll (algo : Int) (nh on : Nat) (es : List Sl) (l ord : List Int) (w : World) (e : Ending) (w' : World) : Prop :=
  ∃ (dA lA : Option Addr) (dn dc ln lc : Nat) (E : Int), e = .returned (.tuple #[.agg #[.slice dA dn dc, .slice lA ln lc], I E]) ∧ Below w.heap.size w w' ∧ (E ≠ 0 → dn = 0 ∧ (¬ (1 ≤ algo ∧ algo ≤ 4) ∨ chkH l es on ≠ 0)) ∧
    (E = 0 → ∃ al : Nat, algo = al ∧ (al = 1 ∨ al = 2 ∨ al = 3 ∨ al = 4) ∧ chkH l es on = 0 ∧ ∃ m, Pn (Wend al nh (prog0 es) l ord).s.nx (Wend al nh (prog0 es) l ord).s.tl ((Wend al nh (prog0 es) l ord).s.nx 0) m ∧
      DR w' dA dn (Tdl (Wend al nh (prog0 es) l ord) nh (fun v => (prog0 es v).length)) ∧ IS w' lA ln lc (lft (Wend al nh (prog0 es) l ord).s m ((Wend al nh (prog0 es) l ord).s.nx 0)))
theorem run_all (A PA OA : Option Addr) (n c nh pc on oc : Nat) (l ord : List Int) (es : List Sl) (w : World) (algo : Int) (hw : (Lit.int .i64 algo).wf = true) (h : IS w A n c l) (hP : RS w PA nh pc es) (hO : IS w OA on oc ord) (hn : n ≤ 9223372036854775807) (hnh : nh ≤ 9223372036854775807) (hon : on ≤ 9223372036854775807) (hes : ∀ s ∈ es, s.n ≤ 9223372036854775807) :
    Calls Try.prog 5 #[I algo, .slice A n c, .slice PA nh pc, .slice OA on oc] w (RunAll algo nh on es l ord w) := by
  by_cases ha : 1 ≤ algo ∧ algo ≤ 4
  · obtain ⟨al, rfl⟩ : ∃ al : Nat, algo = al := ⟨algo.toNat, by omega⟩
    have hal : al = 1 ∨ al = 2 ∨ al = 3 ∨ al = 4 := by omega
    by_cases hE : chkH l es on = 0
    · refine (Run_ok A PA OA n c nh pc on oc l ord es w hal h hP hO hn hnh hon hes hE).mono fun e w' hr => ?_
      obtain ⟨dv, lv, m, rfl, hm, hD, hL, hb⟩ := hr
      obtain ⟨lA, lc, rfl, hL', -⟩ := hL.is_
      obtain ⟨dA, dc, rfl, hD'⟩ := hD.dr
      exact ⟨dA, lA, _, dc, _, lc, 0, rfl, hb, fun h => absurd rfl h, fun _ => ⟨al, rfl, hal, hE, m, hm, hD', hL'⟩⟩
    · exact (Run_err A PA OA n c nh pc on oc l es w hal h hP hn hnh hon hes rfl hE).mono fun e w' ⟨he, hb⟩ => ⟨none, none, 0, 0, 0, 0, _, he, hb, fun _ => ⟨rfl, .inr hE⟩, fun h0 => absurd h0 hE⟩
  · exact (Run_arg A PA OA n c nh pc on oc w algo (keyOf_int_mk Try.underlying3 hw) ha).mono fun e w' ⟨he, hb⟩ => ⟨none, none, 0, 0, 0, 0, _, he, hb, fun _ => ⟨rfl, .inl ha⟩, fun h0 => absurd h0 (by decide)⟩

end Go.Proofs.Ytfmdpmebllepeaa
