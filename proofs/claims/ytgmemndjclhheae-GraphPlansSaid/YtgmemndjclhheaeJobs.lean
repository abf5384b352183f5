/-
  OUR OWN TEXT. Jobs as they lie in memory; slots of a plan; what Plan and Span are held to.
-/
import Derived.Test.YtgmemndjclhheaeRows
import Derived.Test.YtgmemndjclhheaeGraham
import Derived.WalkKit
import Derived.WalkSpells
import Derived.WalkLawsBesides
import Derived.WalkSmall
namespace Go.Proofs.Ytgmemndjclhheae
open Go.RowKit

/-- Jobs, plain. -/
structure Jb where
  n : Nat
  len : Nat → Int
  urg : Nat → Int
  num : Nat → Int
  aft : Nat → List Int

def Jb.gr (J : Jb) : Gr.Jobs := ⟨J.n, fun i => (J.len i).toNat, fun i => (J.aft i).map Int.toNat⟩

/-- What Check lets by, as far as the law asks. -/
structure Jb.Right (J : Jb) : Prop where
  few : J.n ≤ 200
  len : ∀ i, i < J.n → 1 ≤ J.len i ∧ J.len i ≤ 1000
  aft : ∀ i, i < J.n → ∀ a ∈ J.aft i, 0 ≤ a ∧ a < J.n

/-- Numbers of 64 bits. -/
def in64 (n : Int) : Prop := -9223372036854775808 ≤ n ∧ n ≤ 9223372036854775807

/-- Each number of a job is one of 64 bits. -/
def Jb.Rng (J : Jb) : Prop := ∀ i, i < J.n → in64 (J.len i) ∧ in64 (J.urg i) ∧ in64 (J.num i) ∧ ∀ a ∈ J.aft i, in64 a

/-- No more than a slice may take: 2^47 - 4096 bytes, of 48 a job. -/
structure Jb.Small (J : Jb) : Prop where
  n : J.n ≤ 2932031007317
  aft : ∀ i, i < J.n → (J.aft i).length ≤ 9223372036854775807
  rng : J.Rng

/-- A list of numbers lies in memory, in blocks below B. -/
def IntsIn (w : World) (B : Nat) (l : List Int) (v : Value) : Prop := ∃ (a : Option Addr) (cap : Nat), v = .slice a l.length cap ∧ l.length ≤ cap ∧ cap ≤ maxLen ∧
  ∀ k (h : k < l.length), ∃ b off, a = some ⟨b, off, none⟩ ∧ b < B ∧ w.cell? ⟨b, off + k, none⟩ = some (.int .i64 l[k])

/-- Jobs lie in memory, in blocks below B. -/
def Jb.In (J : Jb) (w : World) (B : Nat) (v : Value) : Prop := ∃ (a : Option Addr) (cap : Nat), v = .slice a J.n cap ∧ J.n ≤ cap ∧ cap ≤ maxLen ∧
  ∀ i, i < J.n → ∃ b off s, a = some ⟨b, off, none⟩ ∧ b < B ∧ w.cell? ⟨b, off + i * 4, none⟩ = some (.int .i64 (J.len i)) ∧ w.cell? ⟨b, off + i * 4 + 1, none⟩ = some (.int .i64 (J.urg i)) ∧
    w.cell? ⟨b, off + i * 4 + 2, none⟩ = some s ∧ w.cell? ⟨b, off + i * 4 + 3, none⟩ = some (.int .i64 (J.num i)) ∧ IntsIn w B (J.aft i) s

theorem IntsIn.keep {w w' : World} {B : Nat} (h : ∀ k, k < B → w'.heap[k]? = w.heap[k]?) {l : List Int} {v : Value} (hi : IntsIn w B l v) : IntsIn w' B l v := by
  obtain ⟨a, cap, hv, hl, hc, cell⟩ := hi
  refine ⟨a, cap, hv, hl, hc, fun k hk => ?_⟩
  obtain ⟨b, off, ha, hb, c⟩ := cell k hk
  exact ⟨b, off, ha, hb, by rw [World.cell?_of_block (h b hb)]; exact c⟩

theorem Jb.In.keep {J : Jb} {w w' : World} {B : Nat} (h : ∀ k, k < B → w'.heap[k]? = w.heap[k]?) {v : Value} (hi : J.In w B v) : J.In w' B v := by
  obtain ⟨a, cap, hv, hl, hc, cell⟩ := hi
  refine ⟨a, cap, hv, hl, hc, fun i hi => ?_⟩
  obtain ⟨b, off, s, ha, hb, c0, c1, c2, c3, hs⟩ := cell i hi
  have e : ∀ o : Nat, w'.cell? ⟨b, o, none⟩ = w.cell? ⟨b, o, none⟩ := fun o => World.cell?_of_block (h b hb)
  exact ⟨b, off, s, ha, hb, by rw [e]; exact c0, by rw [e]; exact c1, by rw [e]; exact c2, by rw [e]; exact c3, hs.keep h⟩

/-- A plan's slots lie in memory. -/
def SlotsIn (w : World) (n : Nat) (B W : Nat → Nat) (v : Value) : Prop := ∃ (a : Option Addr) (cap : Nat), v = .slice a n cap ∧ n ≤ cap ∧ cap ≤ maxLen ∧
  ∀ i, i < n → ∃ b off, a = some ⟨b, off, none⟩ ∧ b < w.heap.size ∧ w.cell? ⟨b, off + i * 2, none⟩ = some (.int .i64 (B i)) ∧ w.cell? ⟨b, off + i * 2 + 1, none⟩ = some (.int .i64 (W i))

theorem SlotsIn.keep {w w' : World} (h : Below w.heap.size w w') {n : Nat} {B W : Nat → Nat} {v : Value} (hi : SlotsIn w n B W v) : SlotsIn w' n B W v := by
  obtain ⟨a, cap, hv, hl, hc, cell⟩ := hi
  refine ⟨a, cap, hv, hl, hc, fun i hi => ?_⟩
  obtain ⟨b, off, ha, hb, c0, c1⟩ := cell i hi
  have e : ∀ o : Nat, w'.cell? ⟨b, o, none⟩ = w.cell? ⟨b, o, none⟩ := fun o => World.cell?_of_block (h.block b hb)
  exact ⟨b, off, ha, Nat.lt_of_lt_of_le hb h.size, by rw [e]; exact c0, by rw [e]; exact c1⟩

/-- What Plan is held to; 'c': what Check says of jobs. -/
def PlanSaid (c : Jb → Int) : Prop := ∀ (J : Jb) (w : World) (B : Nat) (v : Value) (m : Int), J.In w B v → B ≤ w.heap.size → J.Small →
  Calls Try.prog 21 #[v, .int .i64 m] w fun e w' => ∃ (s : Value) (n er : Int), e = .returned (.tuple #[s, .int .i64 n, .int .i64 er]) ∧
    (er ≠ 0 → ∃ ao cp, s = .slice ao 0 cp ∧ n = 0) ∧
    (er = 0 → c J = 0 ∧ 1 ≤ m ∧ m ≤ 16 ∧ ∃ (Bg Wk : Nat → Nat) (E : Nat), n = E ∧ Gr.Plan J.gr m.toNat Bg Wk E ∧ SlotsIn w' J.n Bg Wk s) ∧ Below w.heap.size w w'

/-- What Span is held to. -/
def SpanSaid (c : Jb → Int) : Prop := ∀ (J : Jb) (w : World) (B : Nat) (v : Value), J.In w B v → B ≤ w.heap.size → J.Small →
  Calls Try.prog 23 #[v] w fun e w' => ∃ wk sp : Int, e = .returned (.tuple #[.int .i64 wk, .int .i64 sp, .int .i64 (c J)]) ∧
    (c J = 0 → J.Right ∧ ∃ x y : Nat, wk = x ∧ sp = y ∧ Gr.Sums J.gr x y) ∧ Below w.heap.size w w'

/-- Few jobs, none long: little work. -/
theorem work_few {J : Jb} (R : J.Right) {x y : Nat} (S : Gr.Sums J.gr x y) : x ≤ 200000 := by
  rw [S.work]
  have : Gr.sumN J.gr.len J.gr.n ≤ Gr.sumN (fun _ => 1000) J.gr.n := Gr.sumN_le fun i hi => by
    have := (R.len i hi).2
    show (J.len i).toNat ≤ 1000
    omega
  rw [Gr.sumN_const] at this
  have h := R.few
  have hn : J.gr.n = J.n := rfl
  rw [hn] at this ⊢
  omega

theorem wrap_id {x : Int} (h1 : 0 ≤ x) (h2 : x ≤ 100000000) : wrap64 x = x := by unfold wrap64; omega

/-- The numbers, as the walk meets them. -/
theorem numbers {J : Jb} (R : J.Right) {m : Int} (h1 : 1 ≤ m) (h2 : m ≤ 16) {x y E : Nat} {Bg Wk : Nat → Nat} (S : Gr.Sums J.gr x y) (P : Gr.Plan J.gr m.toNat Bg Wk E) :
    (x : Int) ≤ 200000 ∧ (y : Int) ≤ E ∧ (E : Int) ≤ 200000 ∧ (x : Int) ≤ wrap64 ((E : Int) * m) ∧ wrap64 ((E : Int) * m) ≤ wrap64 ((x : Int) + wrap64 ((m - 1) * (y : Int))) := by
  have hm : 1 ≤ m.toNat := by omega
  have e : m = (m.toNat : Int) := by omega
  have a1 := work_few R S
  have a2 := P.span_le S
  have a3 := P.end_le hm S
  have a4 := P.work_le S
  have a5 := P.graham hm S
  have b1 : E * m.toNat ≤ 3200000 := Nat.le_trans (Nat.mul_le_mul (Nat.le_trans a3 a1) (show m.toNat ≤ 16 by omega)) (by decide)
  have b2 : (m.toNat - 1) * y ≤ 3200000 := Nat.le_trans (Nat.mul_le_mul (show m.toNat - 1 ≤ 16 by omega) (show y ≤ 200000 by omega)) (by decide)
  have c1 : (E : Int) * m = ((E * m.toNat : Nat) : Int) := by rw [Int.natCast_mul, ← e]
  have c2 : (m - 1) * (y : Int) = (((m.toNat - 1) * y : Nat) : Int) := by
    have : m - 1 = ((m.toNat - 1 : Nat) : Int) := by omega
    rw [this, Int.natCast_mul]
  rw [c1, c2]
  generalize E * m.toNat = p at *
  generalize (m.toNat - 1) * y = q at *
  rw [wrap_id (x := (p : Int)) (by omega) (by omega), wrap_id (x := (q : Int)) (by omega) (by omega), wrap_id (x := (x : Int) + q) (by omega) (by omega)]
  omega

/-- When the last of the first j has ended. -/
def lastTo (J : Jb) (Bg : Nat → Nat) : Nat → Int
  | 0 => 0
  | j + 1 => max (lastTo J Bg j) (Bg j + J.len j)

theorem lastTo_ge {J : Jb} {Bg : Nat → Nat} : ∀ {j : Nat}, ∀ i, i < j → (Bg i : Int) + J.len i ≤ lastTo J Bg j
  | 0, i, h => by omega
  | j + 1, i, h => by
    simp only [lastTo]
    rcases Nat.lt_succ_iff_lt_or_eq.1 h with h1 | rfl
    · have := lastTo_ge (J := J) (Bg := Bg) i h1; omega
    · omega

theorem lastTo_le {J : Jb} {Bg : Nat → Nat} {E : Int} (hE : 0 ≤ E) : ∀ {j : Nat}, (∀ i, i < j → (Bg i : Int) + J.len i ≤ E) → 0 ≤ lastTo J Bg j ∧ lastTo J Bg j ≤ E
  | 0, _ => ⟨Int.le_refl _, hE⟩
  | j + 1, h => by
    have h1 := lastTo_le hE (j := j) fun i hi => h i (by omega)
    have h2 := h j (by omega)
    simp only [lastTo]
    omega

theorem plan_ends {J : Jb} (R : J.Right) {m E : Nat} {Bg Wk : Nat → Nat} (P : Gr.Plan J.gr m Bg Wk E) (i : Nat) (hi : i < J.n) : (Bg i : Int) + J.len i ≤ E := by
  have h1 := P.ends i hi
  have h2 := R.len i hi
  have h3 : J.gr.len i = (J.len i).toNat := rfl
  omega

theorem lastTo_all {J : Jb} (R : J.Right) {m E : Nat} {Bg Wk : Nat → Nat} (P : Gr.Plan J.gr m Bg Wk E) : lastTo J Bg J.n = E := by
  have h1 := lastTo_le (J := J) (Bg := Bg) (E := E) (by omega) (j := J.n) (plan_ends R P)
  rcases P.last with h | ⟨i, hi, h⟩
  · omega
  · have h2 := lastTo_ge (J := J) (Bg := Bg) (j := J.n) i hi
    have h3 := R.len i hi
    have h4 : J.gr.len i = (J.len i).toNat := rfl
    omega

theorem plan_after {J : Jb} (R : J.Right) {m E : Nat} {Bg Wk : Nat → Nat} (P : Gr.Plan J.gr m Bg Wk E) (i : Nat) (hi : i < J.n) (k : Nat) (hk : k < (J.aft i).length) :
    ∃ a : Nat, (J.aft i)[k] = a ∧ a < J.n ∧ (Bg a : Int) + J.len a ≤ Bg i := by
  have hm : (J.aft i)[k] ∈ J.aft i := List.getElem_mem hk
  have h1 := R.aft i hi _ hm
  refine ⟨((J.aft i)[k]).toNat, by omega, by omega, ?_⟩
  have h2 := P.after i hi ((J.aft i)[k]).toNat (List.mem_map_of_mem hm)
  have h3 := R.len ((J.aft i)[k]).toNat (by omega)
  have h4 : J.gr.len ((J.aft i)[k]).toNat = (J.len ((J.aft i)[k]).toNat).toNat := rfl
  omega

theorem plan_apart {J : Jb} (R : J.Right) {m E : Nat} {Bg Wk : Nat → Nat} (P : Gr.Plan J.gr m Bg Wk E) (i k : Nat) (hi : i < J.n) (hk : k < i) (h : Wk k = Wk i) :
    (Bg k : Int) + J.len k ≤ Bg i ∨ (Bg i : Int) + J.len i ≤ Bg k := by
  have h1 := P.apart k i (show k < J.n by omega) hi (by omega) h
  have h2 := R.len i hi
  have h3 := R.len k (by omega)
  have h4 : J.gr.len i = (J.len i).toNat := rfl
  have h5 : J.gr.len k = (J.len k).toNat := rfl
  omega

#print axioms numbers
#print axioms lastTo_all
end Go.Proofs.Ytgmemndjclhheae
