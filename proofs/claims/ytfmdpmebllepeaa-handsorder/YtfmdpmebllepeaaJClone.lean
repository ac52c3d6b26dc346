/-
  slices.Clone of deeds that are told (one at least).
-/
import Derived.Test.YtfmdpmebllepeaaJOrd1
import Derived.Test.YtfmdpmebllepeaaJStepN
import Derived.Lib.SliceRun
namespace Go.Proofs.Ytfmdpmebllepeaa
open Go.RowKit Go.Maps

theorem fdOne (L : List Dn) : ∀ u ∈ flatD L, u.oneCell' = true := by
  induction L with
  | nil => intro u hu; cases hu
  | cons d t ih =>
    intro u hu
    rcases List.mem_append.mp hu with h | h
    · unfold dcells at h
      simp only [List.mem_cons, List.not_mem_nil, or_false] at h
      rcases h with rfl | rfl | rfl | rfl | rfl <;> rfl
    · exact ih u h
theorem DR.news {w : World} {g n : Nat} {L : List Dn} (hl : L.length = n) (hc : ∀ i (hi : i < L.length) k, k < 5 → w.cell? ⟨g, i * 5 + k, none⟩ = (dcells L[i])[k]?) : ∀ j u, (flatD L)[j]? = some u → w.cell? ((⟨g, 0, none⟩ : Addr).add j) = some u := by
  intro j u hu
  have hadd : (⟨g, 0, none⟩ : Addr).add j = ⟨g, j, none⟩ := by unfold Addr.add; split <;> simp_all
  have hj : j < L.length * 5 := by
    have := (List.getElem?_eq_some_iff.1 hu).1
    rwa [flatD_length] at this
  have e : j / 5 * 5 + j % 5 = j := by omega
  have h5 : j % 5 < 5 := by omega
  have hi : j / 5 < L.length := by omega
  rw [hadd, ← e, hc (j / 5) hi (j % 5) h5, ← flatD_at L (j / 5) (j % 5) hi h5, e]
  exact hu
set_option maxRecDepth 100000 in
set_option maxHeartbeats 4000000 in
theorem cloneD_any (g n c : Nat) (L : List Dn) (w : World) (h : DR w (some ⟨g, 0, none⟩) n L) (h0 : 0 < n) (hn : n ≤ 1000) :
    Calls Try.prog 23 #[.slice (some ⟨g, 0, none⟩) n c] w fun e w' => ∃ g' c', e = .returned (.slice (some ⟨g', 0, none⟩) n c') ∧ w.heap.size ≤ g' ∧ OwnD w' w.heap.size (.slice (some ⟨g', 0, none⟩) n c') L ∧ Below w.heap.size w w' := by
  have hl := h.len
  obtain ⟨g1, e1, hg, hc⟩ := h.at_ h0
  cases e1
  have hnews := DR.news hl fun i hi k hk => (World.cell?_of_block (Below.heap_alloc w (.cells #[] 37) _ hg)).trans (hc i hi k hk)
  have HNEWS := Lib.hid hnews
  have HLN : Hid ((flatD L).length = n * 5) := by show _ = _; rw [flatD_length, hl]
  have HL := Lib.hid hl
  have heq := fun w => Lib.run_eql_slice_nil (P := Try.prog) w 24 37 (some ⟨g, 0, none⟩) n c 0 0 Try.underlying24
  obtain ⟨i0, hi, hz0, hz1, hz2⟩ := jinfo_parts done_info
  have HI := Lib.hid hi
  have HZ0 := Lib.hid hz0
  have HZ1 := Lib.hid hz1
  have HZ2 := Lib.hid hz2
  clear h hl hc hnews hi hz0 hz1 hz2
  go_enter Try.func23, Try.ntmps23
  go_wp2_with (first
    | (at_builtin
       refine wpList_append_lies _ rfl (.tmp 5) (.tmp 6) 24 rfl w.heap.size 37 i0 _ 5 40 Try.underlying24 HI.out HZ0.out HZ1.out HZ2.out rfl (by omega) (.slice (some ⟨w.heap.size, 0, none⟩) 0 0) 0 [] rfl (World.ownsRow_made w _ 0 (Nat.le_refl _) (by unfold maxLen; omega) (by simp)) ⟨g, 0, none⟩ n c (flatD L) rfl HLN.out HNEWS.out (fdOne L) h0 (by unfold maxLen; omega) (by omega) (by simp) (w.heap.size + 1) (by simp) ?_
       intro g2 cap2 w2 hown2 hgrow2 hat2 hlt2
       have HOWN2 := Lib.hid hown2
       have HGR2 := Lib.hid hgrow2
       have HAT2 := Lib.hid hat2
       clear hown2 hgrow2 hat2)
    | fail)
  go_ret
  refine ⟨g2, cap2, rfl, own_ge1 HOWN2.out g2 rfl, ?_, ((Below.refl _ _).alloc (Nat.le_refl _) _).grown HGR2.out (by simp) (by simp [Value.ownBlock])⟩
  have := HOWN2.out
  rw [Nat.zero_add, List.nil_append] at this
  unfold OwnD
  rw [HL.out]
  exact this

end Go.Proofs.Ytfmdpmebllepeaa
