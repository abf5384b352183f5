/-
  OUR OWN TEXT. A plan in memory; end, ahead, Index, nextEnd.
-/
import Derived.Test.YtgmemndjclhheaeNi
import Derived.Test.YtgmemndjclhheaeNj
import Derived.Deep.QuietTactic
import Derived.BigQuiet
namespace Go.Proofs.Ytgmemndjclhheae
open Go.RowKit

/-- Jobs lie in memory, in blocks of R. -/
def Jb.At (J : Jb) (w : World) (R : Nat → Prop) (a : Option Addr) (cap : Nat) : Prop := J.n ≤ cap ∧ cap ≤ maxLen ∧
  ∀ i, i < J.n → ∃ b off, a = some ⟨b, off, none⟩ ∧ R b ∧ w.cell? ⟨b, off + i * 4, none⟩ = some (.int .i64 (J.len i)) ∧ w.cell? ⟨b, off + i * 4 + 1, none⟩ = some (.int .i64 (J.urg i))

theorem Jb.At.keep {J : Jb} {w w' : World} {R : Nat → Prop} {a : Option Addr} {cap : Nat} (h : J.At w R a cap) (hR : ∀ k, R k → w'.heap[k]? = w.heap[k]?) : J.At w' R a cap := by
  refine ⟨h.1, h.2.1, fun i hi => ?_⟩
  obtain ⟨b, off, e, hb, c0, c1⟩ := h.2.2 i hi
  have hc : ∀ o : Nat, w'.cell? ⟨b, o, none⟩ = w.cell? ⟨b, o, none⟩ := fun o => World.cell?_of_block (hR b hb)
  exact ⟨b, off, e, hb, by rw [hc]; exact c0, by rw [hc]; exact c1⟩

/-- Where a plan's parts lie. -/
structure PlanB where
  p : Nat
  q : Nat
  gl : Nat
  gb : Nat
  gs : Nat
  gd : Nat
  base : Nat
  R : Nat → Prop
  a : Option Addr
  cap : Nat
  bv : Nat → Value
  bh : Nat → List Nat

/-- A plan in memory. -/
structure PlanAt (J : Jb) (m : Nat) (P : PlanB) (w : World) (ov : Value) (ol : List Nat) (lf Bg Wk : Nat → Nat) (dg : Nat → Int) : Prop where
  box : w.heap[P.p]? = some (.cells #[.slice P.a J.n P.cap, .pointer (some ⟨P.q, 0, none⟩), ov, .slice (some ⟨P.gs, 0, none⟩) J.n J.n, .slice (some ⟨P.gd, 0, none⟩) m m] 93)
  jobs : J.At w P.R P.a P.cap
  waits : WaitsAt w P.R J.n P.q P.gl P.gb lf P.bv P.bh
  own : w.ownsRow P.base 3 1 ov ol.length (ints ol)
  slots : w.rowIs P.gs 53 (J.n * 2) (slotF Bg Wk)
  doing : w.rowIs P.gd 3 m (fun i => .int .i64 (dg i))
  rlt : ∀ k, P.R k → k < w.heap.size
  rp : ¬ P.R P.p
  rs : ¬ P.R P.gs
  rd : ¬ P.R P.gd
  ro : ∀ g, ov.ownBlock = some g → ¬ P.R g ∧ g ≠ P.p ∧ g ≠ P.gl ∧ g ≠ P.gs ∧ g ≠ P.gd
  ne : P.p ≠ P.gl ∧ P.p ≠ P.gs ∧ P.p ≠ P.gd ∧ P.gl ≠ P.gs ∧ P.gl ≠ P.gd ∧ P.gs ≠ P.gd
  le : P.base ≤ w.heap.size

section
variable {J : Jb} {m : Nat} {P : PlanB} {w w' : World} {ov : Value} {ol : List Nat} {lf Bg Wk : Nat → Nat} {dg : Nat → Int}

theorem PlanAt.keep (h : PlanAt J m P w ov ol lf Bg Wk dg) (hb : Below w.heap.size w w') : PlanAt J m P w' ov ol lf Bg Wk dg where
  box := (hb.block _ (Array.getElem?_eq_some_iff.1 h.box).1).trans h.box
  jobs := h.jobs.keep fun k hk => hb.block k (h.rlt k hk)
  waits := h.waits.keep (fun k hk => hb.block k (h.rlt k hk)) (hb.block _ h.waits.left.lt)
  own := own_keep h.own fun g e => hb.block g (h.own.lt g e).2
  slots := h.slots.of_block (hb.block _ h.slots.lt)
  doing := h.doing.of_block (hb.block _ h.doing.lt)
  rlt k hk := Nat.lt_of_lt_of_le (h.rlt k hk) hb.size
  rp := h.rp
  rs := h.rs
  rd := h.rd
  ro := h.ro
  ne := h.ne
  le := Nat.le_trans h.le hb.size

theorem below_drewN (w : World) (k : Nat) : Below w.heap.size w (w.drewN k) := ⟨rfl, rfl, rfl, Nat.le_refl _, fun _ _ => rfl⟩

theorem PlanAt.drew (h : PlanAt J m P w ov ol lf Bg Wk dg) (k : Nat) : PlanAt J m P (w.drewN k) ov ol lf Bg Wk dg := h.keep (below_drewN w k)
end

theorem drewN_two (w : World) (a b : Nat) : (w.drewN a).drewN b = w.drewN (a + b) := by
  unfold World.drewN
  simp [Nat.add_assoc]

set_option maxRecDepth 100000 in
set_option maxHeartbeats 1000000 in
theorem end_any {J : Jb} {m : Nat} {P : PlanB} {w : World} {ov : Value} {ol : List Nat} {lf Bg Wk : Nat → Nat} {dg : Nat → Int} (h : PlanAt J m P w ov ol lf Bg Wk dg) (hR : J.Right) {j : Nat} (hj : j < J.n) (hb : Bg j ≤ 300000) :
    Calls Try.prog 107 #[.pointer (some ⟨P.p, 0, none⟩), .int .i64 j] w fun e w' => e = .returned (.int .i64 ((Bg j + J.gr.len j : Nat) : Int)) ∧ ∃ k, w' = w.drewN k := by
  obtain ⟨b, off, ha, hbR, c0, c1⟩ := h.jobs.2.2 j hj
  have hn := hR.few
  have hcap := h.jobs.2.1
  have hle := h.jobs.1
  unfold maxLen at hcap
  have p0 : w.cell? ⟨P.p, 0, none⟩ = some (.slice P.a J.n P.cap) := cell_in h.box 0 _ rfl
  have p3 : w.cell? ⟨P.p, 3, none⟩ = some (.slice (some ⟨P.gs, 0, none⟩) J.n J.n) := cell_in h.box 3 _ rfl
  rw [ha] at p0
  have s0 := h.slots.cell (i := j * 2) (by omega)
  rw [slotF_even] at s0
  have hlen := hR.len j hj
  obtain ⟨e, he⟩ : ∃ e : Nat, Bg j + J.gr.len j = e := ⟨_, rfl⟩
  have heI : (Bg j : Int) + J.len j = e := by rw [gr_len] at he; omega
  rw [he]
  obtain ⟨B, hB⟩ : ∃ B : Nat, Bg j = B := ⟨_, rfl⟩
  rw [hB] at s0 heI hb
  clear hB he
  go_enter Try.func107, Try.ntmps107
  go_upto_region 1 with fail
  go_quiet (fail)
  go_wp2_with fail
  go_ret
  exact ⟨rfl, _, rfl⟩

set_option maxRecDepth 100000 in
set_option maxHeartbeats 1000000 in
theorem ahead_any {J : Jb} {m : Nat} {P : PlanB} {w : World} {ov : Value} {ol : List Nat} {lf Bg Wk : Nat → Nat} {dg : Nat → Int} (h : PlanAt J m P w ov ol lf Bg Wk dg) (hR : J.Right) {a b : Nat} (ha : a < J.n) (hb : b < J.n) (x : Bool) (hx : x = true ↔ Gr.better J.urg a b) :
    Calls Try.prog 125 #[.pointer (some ⟨P.p, 0, none⟩), .int .i64 a, .int .i64 b] w fun e w' => e = .returned (.bool x) ∧ ∃ k, w' = w.drewN k := by
  obtain ⟨g, off, hPa, hbR, _, c1⟩ := h.jobs.2.2 a ha
  obtain ⟨g', off', hPa', _, _, c2⟩ := h.jobs.2.2 b hb
  rw [hPa] at hPa'
  cases hPa'
  have hn := hR.few
  have hcap := h.jobs.2.1
  have hle := h.jobs.1
  unfold maxLen at hcap
  have p0 : w.cell? ⟨P.p, 0, none⟩ = some (.slice P.a J.n P.cap) := cell_in h.box 0 _ rfl
  rw [hPa] at p0
  obtain ⟨u, hu⟩ : ∃ u, J.urg a = u := ⟨_, rfl⟩
  obtain ⟨u', hu'⟩ : ∃ u', J.urg b = u' := ⟨_, rfl⟩
  unfold Gr.better at hx
  rw [hu, hu'] at hx
  rw [hu] at c1
  rw [hu'] at c2
  clear hu hu'
  by_cases e : u = u'
  · have hd : (u != u') = false := by simpa using e
    have hd2 : decide ((a : Int) < b) = x := by
      have : (a < b) ↔ x = true := by rw [hx]; omega
      cases x with
      | true => simpa using this.2 rfl
      | false => simp; exact Nat.le_of_not_lt fun h => by have := this.1 h; cases this
    have HE : Hid (u = u') := e
    have hx' : Hid (x = true ↔ u' < u ∨ u = u' ∧ a < b) := hx
    clear e hx
    go_enter Try.func125, Try.ntmps125
    go_upto_region 1 with fail
    go_quiet (fail)
    go_wp2_with fail
    go_ret
    exact ⟨by rw [← hd2]; simp, _, rfl⟩
  · have hd : (u != u') = true := by simpa using e
    have hd2 : decide (u' < u) = x := by
      have : (u' < u) ↔ x = true := by rw [hx]; omega
      cases x with
      | true => simpa using this.2 rfl
      | false => simp; exact Int.not_lt.1 fun h => by have := this.1 h; cases this
    have HE : Hid (¬ u = u') := e
    have hx' : Hid (x = true ↔ u' < u ∨ u = u' ∧ a < b) := hx
    clear e hx
    go_enter Try.func125, Try.ntmps125
    go_upto_region 1 with fail
    go_quiet (fail)
    go_upto_region 2 with fail
    go_quiet (fail)
    go_wp2_with fail
    go_ret
    exact ⟨by rw [← hd2]; simp, _, drewN_two _ _ _⟩

/-- What Index finds. -/
def IdxRes (m : Nat) (dg : Nat → Int) (r : Int) : Prop := (r = -1 ∧ ∀ y, y < m → dg y ≠ -1) ∨ ∃ c : Nat, r = c ∧ c < m ∧ dg c = -1 ∧ ∀ y, y < c → dg y ≠ -1

set_option maxRecDepth 100000 in
set_option maxHeartbeats 1000000 in
theorem index_any {w : World} {g m : Nat} {dg : Nat → Int} (h : w.rowIs g 3 m (fun i => .int .i64 (dg i))) (hm : m ≤ 16) :
    Calls Try.prog 108 #[.slice (some ⟨g, 0, none⟩) m m, .int .i64 (-1)] w fun e w' => ∃ r, e = .returned (.int .i64 r) ∧ IdxRes m dg r ∧ w' = w := by
  go_enter Try.func108, Try.ntmps108
  go_wp2_with fail
  go_loop [8] (fun iv => ∃ k : Nat, k ≤ m ∧ iv = .int .i64 k ∧ ∀ y, y < k → dg y ≠ -1) (fun iv => m - (intOf iv).toNat)
  case atStart => exact ⟨0, Nat.zero_le _, rfl, fun y hy => by omega⟩
  case round =>
    obtain ⟨k, hk, rfl, hno⟩ := hrel
    by_cases hkt : k < m
    · have c0 := h.cell hkt
      obtain ⟨d, hd⟩ : ∃ d, dg k = d := ⟨_, rfl⟩
      rw [hd] at c0
      have HD : Hid (dg k = d) := hd
      clear hd
      by_cases e : d = -1
      · subst e
        have HN : Hid (∀ y, y < k → dg y ≠ -1) := hno
        clear hno
        go_wp2_with fail
        go_ret
        exact ⟨k, rfl, .inr ⟨k, rfl, hkt, HD.out, HN.out⟩, rfl⟩
      · have hd1 : ((-1 : Int) == d) = false := by simp; omega
        have HN : Hid (∀ y, y < k + 1 → dg y ≠ -1) := fun y hy => by
          rcases Nat.lt_succ_iff_lt_or_eq.1 hy with h1 | rfl
          · exact hno y h1
          · rw [HD.out]; exact e
        clear hno e
        go_wp2_with fail
        go_round
        case rel => exact ⟨k + 1, by omega, by go_num, HN.out⟩
        case measure => simp [intOf]; omega
    · obtain rfl : k = m := by omega
      have HN : Hid (∀ y, y < k → dg y ≠ -1) := hno
      clear hno
      go_wp2_with fail
      go_ret
      exact ⟨-1, rfl, .inl ⟨rfl, HN.out⟩, rfl⟩

#print axioms end_any
#print axioms ahead_any
#print axioms index_any
end Go.Proofs.Ytgmemndjclhheae
