/-
  THE TABLE OF LEAST COSTS, the tops it tells, the tree it grows: plain mathematics. Nothing of the program.
-/
import Derived.Test.YtpnjnedfcdppaaaGreatDoorBMore
namespace Go.Proofs.YtpnjnedfcdppaaaGreatDoor

def bblw (c : Nat → Nat → Int) (i j k : Nat) : Int := c i k + c (k + 1) j
/-- the first place of the least, among i .. i + d -/
def tpd (c : Nat → Nat → Int) (i j : Nat) : Nat → Nat
  | 0 => i
  | d + 1 => if bblw c i j (i + 1 + d) < bblw c i j (tpd c i j d) then i + 1 + d else tpd c i j d
def tp (c : Nat → Nat → Int) (i j : Nat) : Nat := tpd c i j (j - (i + 1))
theorem tpd_bd (c : Nat → Nat → Int) (i j : Nat) : ∀ d, i ≤ tpd c i j d ∧ tpd c i j d ≤ i + d
  | 0 => ⟨Nat.le_refl _, Nat.le_refl _⟩
  | d + 1 => by
    have := tpd_bd c i j d
    unfold tpd
    split <;> omega
theorem tpd_least (c : Nat → Nat → Int) (i j : Nat) : ∀ d k, i ≤ k → k ≤ i + d → bblw c i j (tpd c i j d) ≤ bblw c i j k
  | 0, k, h1, h2 => by
    obtain rfl : k = i := by omega
    exact Int.le_refl _
  | d + 1, k, h1, h2 => by
    have ih := tpd_least c i j d
    unfold tpd
    rcases Nat.lt_or_ge k (i + 1 + d) with h3 | h3
    · have := ih k h1 (by omega)
      split <;> omega
    · obtain rfl : k = i + 1 + d := by omega
      split <;> omega
theorem tpd_first (c : Nat → Nat → Int) (i j : Nat) : ∀ d k, i ≤ k → k < tpd c i j d → bblw c i j (tpd c i j d) < bblw c i j k
  | 0, k, h1, h2 => by
    have : tpd c i j 0 = i := rfl
    omega
  | d + 1, k, h1, h2 => by
    have ih := tpd_first c i j d
    have il := tpd_least c i j d
    have ib := tpd_bd c i j d
    unfold tpd at h2 ⊢
    split
    · rename_i hc
      rw [if_pos hc] at h2
      have := il k h1 (by omega)
      omega
    · rename_i hc
      rw [if_neg hc] at h2
      exact ih k h1 h2
theorem tpd_same {c c' : Nat → Nat → Int} {i j : Nat} : ∀ d, (∀ k, i ≤ k → k ≤ i + d → bblw c i j k = bblw c' i j k) → tpd c i j d = tpd c' i j d
  | 0, _ => rfl
  | d + 1, h => by
    have e := tpd_same d (fun k h1 h2 => h k h1 (by omega))
    have hb := tpd_bd c' i j d
    unfold tpd
    rw [e, h (i + 1 + d) (by omega) (by omega), h (tpd c' i j d) hb.1 (by omega)]
theorem tp_bd (c : Nat → Nat → Int) {i j : Nat} (h : i < j) : i ≤ tp c i j ∧ tp c i j < j := by
  have := tpd_bd c i j (j - (i + 1))
  unfold tp
  omega
theorem tp_same {c c' : Nat → Nat → Int} {i j : Nat} (hij : i < j) (h : ∀ k, i ≤ k → k < j → bblw c i j k = bblw c' i j k) : tp c i j = tp c' i j :=
  tpd_same _ fun k h1 h2 => h k h1 (by omega)

/-- the least costs of parts of up to so many keys -/
def cf (w : Nat → Nat → Int) : Nat → Nat → Nat → Int
  | 0, _, _ => 0
  | m + 1, i, j => if i < j then w i j + bblw (cf w m) i j (tp (cf w m) i j) else 0
theorem cf_none (w : Nat → Nat → Int) : ∀ (m i j : Nat), ¬ i < j → cf w m i j = 0
  | 0, _, _, _ => rfl
  | m + 1, i, j, h => by rw [cf, if_neg h]
theorem cf_same (w : Nat → Nat → Int) : ∀ (m m' i j : Nat), j ≤ i + m → j ≤ i + m' → cf w m i j = cf w m' i j
  | 0, m', i, j, h, _ => by rw [cf_none w 0 i j (by omega), cf_none w m' i j (by omega)]
  | m + 1, 0, i, j, _, h => by rw [cf_none w 0 i j (by omega), cf_none w (m + 1) i j (by omega)]
  | m + 1, m' + 1, i, j, h, h' => by
    by_cases hij : i < j
    · have e : ∀ k, i ≤ k → k < j → bblw (cf w m) i j k = bblw (cf w m') i j k := fun k h1 h2 => by
        unfold bblw
        rw [cf_same w m m' i k (by omega) (by omega), cf_same w m m' (k + 1) j (by omega) (by omega)]
      have et := tp_same hij e
      have hb := tp_bd (cf w m') hij
      rw [cf, cf, if_pos hij, if_pos hij, et, e _ hb.1 hb.2]
    · rw [cf_none w _ i j hij, cf_none w _ i j hij]
def lc (w : Nat → Nat → Int) (i j : Nat) : Int := cf w (j - i) i j
theorem lc_zero (w : Nat → Nat → Int) {i j : Nat} (h : ¬ i < j) : lc w i j = 0 := cf_none w _ _ _ h
theorem lc_cf (w : Nat → Nat → Int) {m i j : Nat} (h : j ≤ i + m) : cf w m i j = lc w i j := cf_same w _ _ _ _ h (by omega)
theorem lc_node (w : Nat → Nat → Int) {i j : Nat} (h : i < j) : lc w i j = w i j + bblw (lc w) i j (tp (lc w) i j) := by
  obtain ⟨m, hm⟩ : ∃ m, j - i = m + 1 := ⟨j - i - 1, by omega⟩
  have e : ∀ k, i ≤ k → k < j → bblw (cf w m) i j k = bblw (lc w) i j k := fun k h1 h2 => by
    unfold bblw
    rw [lc_cf w (by omega), lc_cf w (by omega)]
  have et := tp_same h e
  have hb := tp_bd (lc w) h
  rw [show lc w i j = cf w (m + 1) i j by unfold lc; rw [hm], cf, if_pos h, et, e _ hb.1 hb.2]
theorem lc_le (w : Nat → Nat → Int) {i j k : Nat} (h1 : i ≤ k) (h2 : k < j) : lc w i j ≤ w i j + lc w i k + lc w (k + 1) j := by
  rw [lc_node w (show i < j by omega)]
  have := tpd_least (lc w) i j (j - (i + 1)) k h1 (by omega)
  have e : tp (lc w) i j = tpd (lc w) i j (j - (i + 1)) := rfl
  rw [e]
  have e2 : bblw (lc w) i j k = lc w i k + lc w (k + 1) j := rfl
  omega
theorem lc_top (w : Nat → Nat → Int) {i j : Nat} (h : i < j) : TopL w (lc w) i j (tp (lc w) i j) := by
  have hb := tp_bd (lc w) h
  have e := lc_node w h
  have e2 : bblw (lc w) i j (tp (lc w) i j) = lc w i (tp (lc w) i j) + lc w (tp (lc w) i j + 1) j := rfl
  refine ⟨hb.1, hb.2, by omega, fun k h1 h2 => ?_⟩
  have := tpd_first (lc w) i j (j - (i + 1)) k h1 h2
  have e3 : tp (lc w) i j = tpd (lc w) i j (j - (i + 1)) := rfl
  have e4 : bblw (lc w) i j k = lc w i k + lc w (k + 1) j := rfl
  rw [e3] at e e2
  omega
theorem lc_min (w : Nat → Nat → Int) (n : Nat) : MinC w (lc w) n :=
  ⟨fun i _ => lc_zero w (by omega), fun i j k h1 h2 _ => lc_le w h1 h2, fun i j h1 _ => ⟨_, (lc_top w h1).ge, (lc_top w h1).lt, (lc_top w h1).is_⟩⟩
theorem lc_opt {hits gaps : List Int} (n : Nat) (hh : ∀ x ∈ hits, 0 ≤ x) (hg : ∀ x ∈ gaps, 0 ≤ x) : OptC (wij hits gaps) (lc (wij hits gaps)) n :=
  optC_of hh hg (fun i _ => lc_zero _ (by omega)) (fun i j k h1 h2 _ => lc_le _ h1 h2) (fun i j h1 _ => ⟨_, (lc_top _ h1).ge, (lc_top _ h1).lt, (lc_top _ h1).is_⟩)
theorem lc_bd (w : Nat → Nat → Int) (n : Nat) (hw : ∀ i j, i ≤ j → j ≤ n → 0 ≤ w i j ∧ w i j ≤ 41000) : ∀ (m i j : Nat), j ≤ i + m → j ≤ n → 0 ≤ lc w i j ∧ lc w i j ≤ 41000 * m
  | 0, i, j, h, _ => by rw [lc_zero w (by omega)]; omega
  | m + 1, i, j, h, hn => by
    by_cases hij : i < j
    · have hb := tp_bd (lc w) hij
      rw [lc_node w hij]
      unfold bblw
      generalize tp (lc w) i j = k at *
      have h0 := hw i j (by omega) hn
      have h1 := lc_bd w n hw (k - i) i k (by omega) (by omega)
      have h2 := lc_bd w n hw (j - (k + 1)) (k + 1) j (by omega) hn
      omega
    · rw [lc_zero w hij]; omega
termination_by m => m

theorem wgt_bd {hits gaps : List Int} (hh : ∀ x ∈ hits, 0 ≤ x ∧ x ≤ 1000) (hg : ∀ x ∈ gaps, 0 ≤ x ∧ x ≤ 1000) (i : Nat) : ∀ d : Nat, 0 ≤ wgt hits gaps i d ∧ wgt hits gaps i d ≤ 1000 + 2000 * (d : Int) := by
  have g : ∀ (l : List Int), (∀ x ∈ l, 0 ≤ x ∧ x ≤ 1000) → ∀ q : Nat, 0 ≤ l[q]?.getD 0 ∧ l[q]?.getD 0 ≤ 1000 := fun l hl q => by
    rcases Nat.lt_or_ge q l.length with hq | hq
    · rw [List.getElem?_eq_getElem hq]; exact hl _ (List.getElem_mem hq)
    · rw [List.getElem?_eq_none hq]; simp
  intro d
  induction d with
  | zero => have := g gaps hg i; simp only [wgt]; omega
  | succ d ih => have := g gaps hg (i + d + 1); have := g hits hh (i + d); simp only [wgt]; omega
theorem wij_bd {hits gaps : List Int} (hh : ∀ x ∈ hits, 0 ≤ x ∧ x ≤ 1000) (hg : ∀ x ∈ gaps, 0 ≤ x ∧ x ≤ 1000) (i j : Nat) (h : j ≤ 20) : 0 ≤ wij hits gaps i j ∧ wij hits gaps i j ≤ 41000 := by
  have := wgt_bd hh hg i (j - i)
  unfold wij
  omega

/-- the table, while it is filled: all parts that begin behind a, and those from a on that end ahead of b -/
def tbf (w : Nat → Nat → Int) (n a b i j : Nat) : Int := if i < j ∧ j ≤ n ∧ (a < i ∨ (i = a ∧ j < b)) then lc w i j else 0
def bupd (c : Nat → Nat → Int) (a b : Nat) (x : Int) (i j : Nat) : Int := if i = a ∧ j = b then x else c i j
theorem tbf_step (w : Nat → Nat → Int) {n a b : Nat} (h1 : a < b) (h2 : b ≤ n) : bupd (tbf w n a b) a b (lc w a b) = tbf w n a (b + 1) := by
  funext i j
  unfold bupd tbf
  by_cases h : i = a ∧ j = b
  · obtain ⟨rfl, rfl⟩ := h
    rw [if_pos ⟨rfl, rfl⟩, if_pos (by omega)]
  · rw [if_neg h]
    by_cases h' : i < j ∧ j ≤ n ∧ (a < i ∨ (i = a ∧ j < b))
    · rw [if_pos h', if_pos (by omega)]
    · rw [if_neg h', if_neg (by omega)]
theorem tbf_row (w : Nat → Nat → Int) (n a : Nat) : tbf w n (a + 1) (n + 1) = tbf w n a (a + 1) := by
  funext i j
  unfold tbf
  by_cases h' : i < j ∧ j ≤ n ∧ (a + 1 < i ∨ (i = a + 1 ∧ j < n + 1))
  · rw [if_pos h', if_pos (by omega)]
  · rw [if_neg h', if_neg (by omega)]
theorem tbf_start (w : Nat → Nat → Int) (n : Nat) : tbf w n n (n + 1) = fun _ _ => 0 := by
  funext i j
  unfold tbf
  rw [if_neg (by omega)]
theorem tbf_blw (w : Nat → Nat → Int) {n a b k : Nat} (h1 : a ≤ k) (h2 : k < b) (h3 : b ≤ n) : bblw (tbf w n a b) a b k = bblw (lc w) a b k := by
  have e1 : tbf w n a b a k = lc w a k := by
    unfold tbf
    by_cases h : a < k
    · rw [if_pos (by omega)]
    · rw [if_neg (by omega), lc_zero w (by omega)]
  have e2 : tbf w n a b (k + 1) b = lc w (k + 1) b := by
    unfold tbf
    by_cases h : k + 1 < b
    · rw [if_pos (by omega)]
    · rw [if_neg (by omega), lc_zero w (by omega)]
  unfold bblw
  rw [e1, e2]
/-- the table, filled -/
def tbz (w : Nat → Nat → Int) (n i j : Nat) : Int := if i < j ∧ j ≤ n then lc w i j else 0
theorem tbf_end (w : Nat → Nat → Int) (n : Nat) : tbf w n 0 (n + 1) = tbz w n := by
  funext i j
  unfold tbf tbz
  by_cases h' : i < j ∧ j ≤ n
  · rw [if_pos h', if_pos (by omega)]
  · rw [if_neg h', if_neg (by omega)]
theorem tbz_at (w : Nat → Nat → Int) {n i j : Nat} (h : j ≤ n) : tbz w n i j = lc w i j := by
  unfold tbz
  by_cases h' : i < j ∧ j ≤ n
  · rw [if_pos h']
  · rw [if_neg h', lc_zero w (by omega)]
theorem tbz_tp (w : Nat → Nat → Int) {n i j : Nat} (hij : i < j) (h : j ≤ n) : tp (tbz w n) i j = tp (lc w) i j :=
  tp_same hij fun k h1 h2 => by unfold bblw; rw [tbz_at w (by omega), tbz_at w h]
theorem tbf_tp (w : Nat → Nat → Int) {n a b : Nat} (h1 : a < b) (h3 : b ≤ n) : tp (tbf w n a b) a b = tp (lc w) a b := tp_same h1 fun k h2 h4 => tbf_blw w h2 h4 h3
theorem tbf_bd (w : Nat → Nat → Int) (n a b : Nat) (hn : n ≤ 20) (hw : ∀ i j, i ≤ j → j ≤ n → 0 ≤ w i j ∧ w i j ≤ 41000) (i j : Nat) : 0 ≤ tbf w n a b i j ∧ tbf w n a b i j ≤ 1000000 := by
  unfold tbf
  split
  · have := lc_bd w n hw 20 i j (by omega) (by omega)
    omega
  · omega
theorem tbz_bd (w : Nat → Nat → Int) (n : Nat) (hn : n ≤ 20) (hw : ∀ i j, i ≤ j → j ≤ n → 0 ≤ w i j ∧ w i j ≤ 41000) (i j : Nat) : 0 ≤ tbz w n i j ∧ tbz w n i j ≤ 1000000 := by
  rw [← tbf_end]
  exact tbf_bd w n 0 (n + 1) hn hw i j

/-- the tree that costs least, of several that with the least tops -/
def bt (w : Nat → Nat → Int) : Nat → Nat → Nat → Tr
  | 0, _, _ => .nil
  | m + 1, i, j => if i < j then .node (bt w m i (tp (lc w) i j)) (tp (lc w) i j : Nat) (bt w m (tp (lc w) i j + 1) j) else .nil
theorem bt_rng (w : Nat → Nat → Int) : ∀ (m i j : Nat), j ≤ i + m → i ≤ j → Rng (bt w m i j) i j
  | 0, i, j, h, h' => by show i = j; omega
  | m + 1, i, j, h, h' => by
    unfold bt
    split
    · rename_i hij
      have hb := tp_bd (lc w) hij
      generalize tp (lc w) i j = k at *
      refine ⟨by omega, ?_, ?_⟩
      · rw [Int.toNat_natCast]; exact bt_rng w m i k (by omega) hb.1
      · rw [Int.toNat_natCast]; exact bt_rng w m (k + 1) j (by omega) (by omega)
    · show i = j; omega
theorem bt_same (w : Nat → Nat → Int) : ∀ (m m' i j : Nat), j ≤ i + m → j ≤ i + m' → bt w m i j = bt w m' i j
  | 0, 0, i, j, _, _ => rfl
  | 0, m' + 1, i, j, h, _ => by unfold bt; rw [if_neg (by omega)]
  | m + 1, 0, i, j, _, h => by unfold bt; rw [if_neg (by omega)]
  | m + 1, m' + 1, i, j, h, h' => by
    unfold bt
    by_cases hij : i < j
    · have hb := tp_bd (lc w) hij
      rw [if_pos hij, if_pos hij, bt_same w m m' i (tp (lc w) i j) (by omega) (by omega), bt_same w m m' (tp (lc w) i j + 1) j (by omega) (by omega)]
    · rw [if_neg hij, if_neg hij]
theorem bt_ask (hits gaps : List Int) : ∀ (m i j : Nat), j ≤ i + m → i ≤ j → (bt (wij hits gaps) m i j).ask hits gaps i 0 = lc (wij hits gaps) i j
  | 0, i, j, h, h' => by
    rw [lc_zero _ (by omega)]
    show gaps[i]?.getD 0 * 0 = 0
    rw [Int.mul_zero]
  | m + 1, i, j, h, h' => by
    by_cases hij : i < j
    · have hr := bt_rng (wij hits gaps) (m + 1) i j h h'
      have hb := tp_bd (lc (wij hits gaps)) hij
      have hn := lc_node (wij hits gaps) hij
      have e : bt (wij hits gaps) (m + 1) i j = .node (bt (wij hits gaps) m i (tp (lc (wij hits gaps)) i j)) (tp (lc (wij hits gaps)) i j : Nat) (bt (wij hits gaps) m (tp (lc (wij hits gaps)) i j + 1) j) := by
        rw [bt, if_pos hij]
      rw [e] at hr ⊢
      rw [ask_node hits gaps hr]
      unfold bblw at hn
      generalize tp (lc (wij hits gaps)) i j = k at *
      rw [Int.toNat_natCast, bt_ask hits gaps m i k (by omega) hb.1, bt_ask hits gaps m (k + 1) j (by omega) (by omega)]
      omega
    · rw [bt, if_neg hij, lc_zero _ hij]
      show gaps[i]?.getD 0 * 0 = 0
      rw [Int.mul_zero]

/-! what a tree costs, told by its spots -/
def bsum (f : Nat → Int) : Nat → Int
  | 0 => 0
  | k + 1 => bsum f k + f k
theorem bsum_add (f : Nat → Int) (a : Nat) : ∀ b, bsum f (a + b) = bsum f a + bsum (fun q => f (a + q)) b
  | 0 => by simp [bsum]
  | b + 1 => by
    rw [← Nat.add_assoc, bsum, bsum, bsum_add f a b]
    omega
theorem bsum_same {f g : Nat → Int} : ∀ {n : Nat}, (∀ q, q < n → f q = g q) → bsum f n = bsum g n
  | 0, _ => rfl
  | n + 1, h => by rw [bsum, bsum, bsum_same (n := n) (fun q hq => h q (by omega)), h n (by omega)]
theorem bsum_bd {f : Nat → Int} {n : Nat} (h : ∀ q, q < n → 0 ≤ f q ∧ f q ≤ 201000) : ∀ k, k ≤ n → 0 ≤ bsum f k ∧ bsum f k ≤ 201000 * (k : Int)
  | 0, _ => by simp [bsum]
  | k + 1, hk => by
    have h1 := bsum_bd h k (by omega)
    have h2 := h k (by omega)
    rw [bsum]
    omega
/-- nodes met on the way to the gap q: the deeper one of its neighbours is met last -/
def mtd (d : Int) (L : PL) (q : Nat) : Int := max (max d (if 0 < q then dp L (q - 1) + 1 else d)) (if q < L.length then dp L q + 1 else d)
def costH (hits : List Int) (i : Nat) (L : PL) (q : Nat) : Int := hits[i + q]?.getD 0 * (dp L q + 1)
def costG (gaps : List Int) (i : Nat) (d : Int) (L : PL) (q : Nat) : Int := gaps[i + q]?.getD 0 * mtd d L q
theorem rng_size : ∀ {t : Tr} {i j : Nat}, Rng t i j → j = i + t.size := by
  intro t
  induction t with
  | nil => intro i j h; exact h.symm
  | node a k b iha ihb =>
    intro i j h
    have h1 := iha h.2.1
    have h2 := ihb h.2.2
    simp only [Tr.size]
    omega
theorem ask_sums (hits gaps : List Int) : ∀ (t : Tr) (i j : Nat) (d : Int), Rng t i j → t.ask hits gaps i d = bsum (costH hits i (t.sp d)) t.size + bsum (costG gaps i d (t.sp d)) (t.size + 1) := by
  intro t
  induction t with
  | nil =>
    intro i j d h
    simp [Tr.ask, Tr.size, Tr.sp, bsum, costG, mtd]
  | node a k b iha ihb =>
    intro i j d h
    have ha := rng_size h.2.1
    have hk := h.1
    rw [Tr.ask, iha i _ (d + 1) h.2.1, ihb _ _ (d + 1) h.2.2]
    obtain ⟨x, hx⟩ : ∃ x, a.size = x := ⟨_, rfl⟩
    obtain ⟨y, hy⟩ : ∃ y, b.size = y := ⟨_, rfl⟩
    rw [show k.toNat = i + x by omega]
    have hla : (a.sp (d + 1)).length = x := by rw [sp_length, hx]
    have hlb : (b.sp (d + 1)).length = y := by rw [sp_length, hy]
    have dl : ∀ q, q < x → dp ((Tr.node a k b).sp d) q = dp (a.sp (d + 1)) q := fun q hq => by
      rw [Tr.sp, dp_left (by omega)]
    have dm : dp ((Tr.node a k b).sp d) x = d := by
      have := dp_mid (a.sp (d + 1)) (b.sp (d + 1)) (k, d)
      rw [hla] at this
      rw [Tr.sp, this]
    have dr : ∀ q, dp ((Tr.node a k b).sp d) (x + 1 + q) = dp (b.sp (d + 1)) q := fun q => by
      rw [Tr.sp, dp_right (by omega), hla, show x + 1 + q - x = q + 1 by omega]
      simp [dp]
    have ga : ∀ q, q < x → d + 1 ≤ dp (a.sp (d + 1)) q := fun q hq => sp_ge a (d + 1) q (by omega)
    have gb : ∀ q, q < y → d + 1 ≤ dp (b.sp (d + 1)) q := fun q hq => sp_ge b (d + 1) q (by omega)
    have hlen : ((Tr.node a k b).sp d).length = x + 1 + y := by rw [sp_length]; simp [Tr.size, hx, hy]
    have hsz : (Tr.node a k b).size = x + 1 + y := by simp [Tr.size, hx, hy]
    rw [hx, hy, hsz]
    have s1 : bsum (costH hits i ((Tr.node a k b).sp d)) (x + 1 + y) = bsum (costH hits i (a.sp (d + 1))) x + hits[i + x]?.getD 0 * (d + 1) + bsum (costH hits (i + x + 1) (b.sp (d + 1))) y := by
      rw [bsum_add, bsum]
      congr 1
      · congr 1
        · exact bsum_same fun q hq => by unfold costH; rw [dl q hq]
        · unfold costH; rw [dm]
      · exact bsum_same fun q hq => by unfold costH; rw [dr q, show i + (x + 1 + q) = i + x + 1 + q by omega]
    have s2 : bsum (costG gaps i d ((Tr.node a k b).sp d)) (x + 1 + y + 1) = bsum (costG gaps i (d + 1) (a.sp (d + 1))) (x + 1) + bsum (costG gaps (i + x + 1) (d + 1) (b.sp (d + 1))) (y + 1) := by
      rw [show x + 1 + y + 1 = (x + 1) + (y + 1) by omega, bsum_add]
      congr 1
      · refine bsum_same fun q hq => ?_
        unfold costG
        congr 1
        unfold mtd
        rw [hlen, hla]
        have e1 : (if 0 < q then dp ((Tr.node a k b).sp d) (q - 1) + 1 else d) = (if 0 < q then dp (a.sp (d + 1)) (q - 1) + 1 else d) := by
          by_cases h0 : 0 < q
          · rw [if_pos h0, if_pos h0, dl _ (by omega)]
          · rw [if_neg h0, if_neg h0]
        rw [e1, if_pos (show q < x + 1 + y by omega)]
        by_cases h0 : 0 < q
        · rw [if_pos h0, if_pos h0]
          have := ga (q - 1) (by omega)
          by_cases h1 : q < x
          · rw [if_pos h1, dl q h1]
            have := ga q h1
            omega
          · obtain rfl : q = x := by omega
            rw [if_neg h1, dm]
            omega
        · rw [if_neg h0, if_neg h0]
          by_cases h1 : q < x
          · rw [if_pos h1, dl q h1]
            have := ga q h1
            omega
          · obtain rfl : q = x := by omega
            rw [if_neg h1, dm]
            omega
      · refine bsum_same fun q hq => ?_
        unfold costG
        rw [show i + (x + 1 + q) = i + x + 1 + q by omega]
        congr 1
        unfold mtd
        rw [hlen, hlb, if_pos (show 0 < x + 1 + q by omega)]
        have e2 : (if x + 1 + q < x + 1 + y then dp ((Tr.node a k b).sp d) (x + 1 + q) + 1 else d) = (if q < y then dp (b.sp (d + 1)) q + 1 else d) := by
          by_cases h0 : q < y
          · rw [if_pos h0, if_pos (by omega), dr q]
          · rw [if_neg h0, if_neg (by omega)]
        rw [e2]
        by_cases h0 : 0 < q
        · rw [if_pos h0, show x + 1 + q - 1 = x + 1 + (q - 1) by omega, dr (q - 1)]
          have := gb (q - 1) (by omega)
          by_cases h1 : q < y
          · rw [if_pos h1, if_pos h1]
            have := gb q h1
            omega
          · rw [if_neg h1, if_neg h1]
            omega
        · obtain rfl : q = 0 := by omega
          rw [if_neg h0, show x + 1 + 0 - 1 = x by omega, dm]
          by_cases h1 : 0 < y
          · rw [if_pos h1, if_pos h1]
            have := gb 0 h1
            omega
          · rw [if_neg h1, if_neg h1]
            omega
    rw [s1, s2]
    omega

/-- spots whose keys are places -/
def keysR (l : PL) (n : Nat) : Bool := decide (l.length = n ∧ ∀ i, i < l.length → ky l i = i)
theorem rng_of : ∀ (t : Tr) (d : Int) (i : Nat), (∀ q, q < t.size → ky (t.sp d) q = ((i + q : Nat) : Int)) → Rng t i (i + t.size) := by
  intro t
  induction t with
  | nil => intro d i _; rfl
  | node a k b iha ihb =>
    intro d i h
    have hsz : (Tr.node a k b).size = a.size + 1 + b.size := rfl
    have hk : k = ((i + a.size : Nat) : Int) := by
      have := h a.size (by omega)
      have e := ky_mid (a.sp (d + 1)) (b.sp (d + 1)) (k, d)
      rw [sp_length] at e
      rw [Tr.sp, e] at this
      exact this
    have h1 := iha (d + 1) i fun q hq => by
      have := h q (by omega)
      rw [Tr.sp, ky_left (by rw [sp_length]; exact hq)] at this
      exact this
    have h2 := ihb (d + 1) (i + a.size + 1) fun q hq => by
      have := h (a.size + 1 + q) (by omega)
      rw [Tr.sp, ky_right (by rw [sp_length]; omega), sp_length, show a.size + 1 + q - a.size = q + 1 by omega] at this
      have e : ky ((k, d) :: b.sp (d + 1)) (q + 1) = ky (b.sp (d + 1)) q := by simp [ky]
      rw [e] at this
      rw [this]
      omega
    refine ⟨by omega, ?_, ?_⟩
    · rw [hk, Int.toNat_natCast]; exact h1
    · show Rng b (k.toNat + 1) (i + (a.size + 1 + b.size))
      rw [hk, Int.toNat_natCast, show i + (a.size + 1 + b.size) = i + a.size + 1 + b.size by omega]
      exact h2
theorem rng_keys : ∀ {t : Tr} {i j : Nat} (d : Int), Rng t i j → ∀ q, q < t.size → ky (t.sp d) q = ((i + q : Nat) : Int) := by
  intro t
  induction t with
  | nil => intro i j d _ q hq; simp [Tr.size] at hq
  | node a k b iha ihb =>
    intro i j d h q hq
    have ha := rng_size h.2.1
    have hk := h.1
    simp only [Tr.size] at hq
    rw [Tr.sp]
    rcases Nat.lt_trichotomy q a.size with h1 | h1 | h1
    · rw [ky_left (by rw [sp_length]; exact h1)]
      exact iha (d + 1) h.2.1 q h1
    · have e := ky_mid (a.sp (d + 1)) (b.sp (d + 1)) (k, d)
      rw [sp_length] at e
      rw [h1, e]
      show k = _
      omega
    · rw [ky_right (by rw [sp_length]; omega), sp_length]
      have e : ky ((k, d) :: b.sp (d + 1)) (q - a.size) = ky (b.sp (d + 1)) (q - a.size - 1) := by
        obtain ⟨m, hm⟩ : ∃ m, q - a.size = m + 1 := ⟨q - a.size - 1, by omega⟩
        rw [hm]; simp [ky]
      rw [e, ihb (d + 1) h.2.2 (q - a.size - 1) (by omega)]
      omega
/-- a tree of keys that are places is a tree -/
theorem rng_istree {t : Tr} {n : Nat} (h : Rng t 0 n) (hn : n ≤ 200) : IsTree (t.sp 0) := by
  have hs := rng_size h
  refine ⟨by rw [sp_length]; omega, fun i hi => ?_, t, rfl⟩
  rw [sp_length] at hi
  rw [rng_keys 0 h i (by omega), rng_keys 0 h (i + 1) hi]
  omega

end Go.Proofs.YtpnjnedfcdppaaaGreatDoor
