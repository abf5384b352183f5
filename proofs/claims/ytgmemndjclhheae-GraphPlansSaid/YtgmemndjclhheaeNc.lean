/-
  OUR OWN TEXT. Rows of numbers that a call makes; free.
-/
import Derived.Test.YtgmemndjclhheaeNb
import Derived.Laws.AppendOwnNone
import Derived.Maps.AppendAt
namespace Go.Proofs.Ytgmemndjclhheae
open Go.RowKit

/-- append onto a slice that the call owns, of a slice that may be nil. -/
theorem wpList_append_mem {P : Program} {w : World} {ops : Array Oper} {rest : List Oper} {o : Oper} {a : Act} {Q : Exit → Act → World → Prop} (hgd : o.guard = none) (s x : Operand) (t : TypeId)
    (ho : o.op = .call { callee := .builtin .append, args := #[s, x], argTypes := #[t, t] })
    (base : Nat) (e : TypeId) (i : TypeInfo) (z : Value) (size bytes : Nat) (ht : P.underlying t = some (.slice e)) (hi : P.info? e = some i) (hz : i.zero = some z)
    (hsize : i.size = size) (hby : i.bytes = bytes) (hzs : z.cells.size = size) (hsz : 0 < size)
    (v : Value) (n : Nat) (xs : List Value) (hs : a.eval s = v) (hown : w.ownsRow base e size v n xs)
    (ad : Option Addr) (m c : Nat) (news : List Value) (hx : a.eval x = .slice ad m c) (hl : news.length = m * size) (h0 : ad = none → m = 0 ∧ c = 0) (hnews : ∀ a', ad = some a' → ∀ j u, news[j]? = some u → w.cell? (a'.add j) = some u) (h1 : ∀ u ∈ news, u.oneCell' = true)
    (h63 : n + m ≤ maxLen) (hbytes : (n + m) * bytes ≤ 140737488355328) (hbase : base ≤ w.heap.size)
    (h : ∀ v' w', w'.ownsRow base e size v' (n + m) (xs ++ news) → w.grownBy w' v.ownBlock → (v'.ownBlock = v.ownBlock ∨ v'.ownBlock = some w.heap.size) → wpList P ops Q rest (a.put o.dst v') w') :
    wpList P ops Q (o :: rest) a w := by
  cases ad with
  | some ad => exact wpList_append_own_at w hgd s x t ho base e i z size bytes ht hi hz hsize hby hzs hsz v n xs hs hown ad m c news hx hl (hnews ad rfl) h1 h63 hbytes hbase fun v' w' a1 a2 _ a3 => h v' w' a1 a2 a3
  | none =>
    obtain ⟨rfl, rfl⟩ := h0 rfl
    have hnews : news = [] := List.length_eq_zero_iff.1 (by rw [hl]; omega)
    subst hnews
    exact wpList_append_own_none hgd s x t ho base e i size ht hi v n xs hs hown hx (h v w (by simpa using hown) (World.grownBy.refl _ _) (.inl rfl))

theorem Try.info_int : (Try.prog.info? 3).map (fun i => (i.zero, i.size, i.bytes)) = some (some (.int .i64 0), 1, 8) := by kernel_rfl

/-- Numbers, as cells. -/
def ints (l : List Nat) : List Value := l.map fun x : Nat => Value.int .i64 (x : Int)

theorem ints_one (l : List Nat) : ∀ u ∈ ints l, u.oneCell' = true := fun u hu => by
  obtain ⟨x, _, rfl⟩ := List.mem_map.1 hu
  rfl
theorem ints_len (l : List Nat) : (ints l).length = l.length := List.length_map _
theorem ints_get {l : List Nat} {j : Nat} {u : Value} (h : (ints l)[j]? = some u) : ∃ hj : j < l.length, u = .int .i64 (l[j] : Nat) := by
  unfold ints at h
  rw [List.getElem?_map] at h
  obtain ⟨x, hx, rfl⟩ := Option.map_eq_some_iff.1 h
  obtain ⟨hj, rfl⟩ := List.getElem?_eq_some_iff.1 hx
  exact ⟨hj, rfl⟩

theorem addr_add (g o j : Nat) : (⟨g, o, none⟩ : Addr).add j = ⟨g, o + j, none⟩ := by
  unfold Addr.add
  split
  · rename_i h; subst h; rfl
  · rfl

theorem own_keep {w w' : World} {base : Nat} {e : TypeId} {size : Nat} {v : Value} {n : Nat} {xs : List Value} (h : w.ownsRow base e size v n xs) (hb : ∀ g, v.ownBlock = some g → w'.heap[g]? = w.heap[g]?) : w'.ownsRow base e size v n xs := by
  refine ⟨h.1, ?_⟩
  rcases h.2 with h1 | ⟨g, cap, cur, rfl, h1, h2, h3⟩
  · exact .inl h1
  · exact .inr ⟨g, cap, cur, rfl, h1, by rw [hb g rfl]; exact h2, h3⟩

theorem own_shape {w : World} {base : Nat} {e : TypeId} {size : Nat} {v : Value} {n : Nat} {xs : List Value} (h : w.ownsRow base e size v n xs) : ∃ a c, v = .slice a n c ∧ n ≤ c ∧ c ≤ maxLen ∧ (a = none → n = 0 ∧ c = 0) := by
  rcases h.2 with ⟨rfl, h0⟩ | ⟨g, c, _, rfl, _, _, h1, h2, _⟩
  · exact ⟨none, 0, by rw [h0], by omega, by unfold maxLen; omega, fun _ => ⟨h0, rfl⟩⟩
  · exact ⟨_, _, rfl, h1, h2, nofun⟩

theorem below_grown {N : Nat} {w W W' : World} {row : Option Nat} (h : Below N w W) (hN : N ≤ W.heap.size) (hg : W.grownBy W' row) (hr : ∀ g, row = some g → N ≤ g) : Below N w W' :=
  ⟨hg.os.trans h.os, hg.tape.trans h.tape, hg.output.trans h.output, Nat.le_trans h.size hg.size, fun k hk => (hg.block k (by omega) (fun e => by have := hr k e.symm; omega)).trans (h.block k hk)⟩

theorem cell_in {W : World} {g : Nat} {cs : Array Value} {t : TypeId} {p : Nat × Nat} (h : W.heap[g]? = some (.cells cs t p)) (j : Nat) (u : Value) (hj : cs[j]? = some u) : W.cell? ⟨g, j, none⟩ = some u := by
  simp [World.cell?, h, hj]

theorem src_one {W : World} {b : Nat} {u : Value} (h : W.cell? ⟨b, 0, none⟩ = some u) : ∀ a', some (⟨b, 0, none⟩ : Addr) = some a' → ∀ j u', [u][j]? = some u' → W.cell? (a'.add j) = some u' := by
  intro a' e j u' hj
  cases e
  match j, hj with
  | 0, hj => cases hj; rw [addr_add]; exact h
  | j + 1, hj => simp at hj

/-- A cell of a row of numbers of one's own. -/
theorem own_int {w : World} {base : Nat} {a : Option Addr} {n c : Nat} {l : List Nat} (h : w.ownsRow base 3 1 (.slice a n c) n (ints l)) {j : Nat} (hj : j < l.length) :
    ∃ g, a = some ⟨g, 0, none⟩ ∧ base ≤ g ∧ g < w.heap.size ∧ w.cell? ⟨g, j, none⟩ = some (.int .i64 (l[j] : Nat)) ∧ w.frozen? ⟨g, j, none⟩ = false := by
  have hl := h.1
  rw [ints_len, Nat.mul_one] at hl
  rcases h.2 with ⟨e, h0⟩ | ⟨g, c', cur, e, hb, hg, h3⟩
  · omega
  · cases e
    refine ⟨g, rfl, hb, (Array.getElem?_eq_some_iff.1 hg).1, ?_, h.frozenAt j⟩
    rw [h.cellAt j (by omega)]
    unfold ints
    rw [List.getElem?_map, List.getElem?_eq_getElem hj]
    rfl

theorem own_len {w : World} {base n : Nat} {v : Value} {l : List Nat} (h : w.ownsRow base 3 1 v n (ints l)) : l.length = n := by
  have hl := h.1
  rw [ints_len, Nat.mul_one] at hl
  exact hl

set_option maxRecDepth 100000 in
set_option maxHeartbeats 1000000 in
theorem free_any (J : Jb) (w : World) (B : Nat) (v : Value) (hin : J.In w B v) (hB : B ≤ w.heap.size) (hsm : J.Small) :
    Calls Try.prog 67 #[v] w fun e w' => ∃ ov, e = .returned ov ∧ w'.ownsRow w.heap.size 3 1 ov (freeTo J J.n).length (ints (freeTo J J.n)) ∧ Below w.heap.size w w' := by
  have hin0 := hin
  obtain ⟨a, cap, rfl, hl, hc, hq⟩ := hin
  clear hq
  unfold maxLen at hc
  have hsn := hsm.n
  obtain ⟨i0, hi0, hz0, hz1, hz2⟩ := info_parts Try.info_int
  go_enter Try.func67, Try.ntmps67
  go_wp2_with fail
  go_loopw [3, 8] (fun sv iv wr => ∃ k : Nat, k ≤ J.n ∧ iv = .int .i64 k ∧ Below w.heap.size w wr ∧ wr.ownsRow w.heap.size 3 1 sv (freeTo J k).length (ints (freeTo J k))) (fun _ iv _ => J.n - (intOf iv).toNat)
  case atStart => exact ⟨0, Nat.zero_le _, rfl, Below.refl _ _, World.ownsRow_nil _ _ _ _⟩
  case round =>
    rename World => w3
    obtain ⟨k, hk, rfl, hb3, hown⟩ := hrel
    by_cases hkt : k < J.n
    · obtain ⟨b, off, aa, acap, rfl, hbB, f0, f1, f2, f3, h1, h2, hx⟩ := hin0.cells hB hb3 hkt
      have hfl := freeTo_len J k
      have hs3 := hb3.size
      clear hin0 hx
      by_cases hal : (J.aft k).length = 0
      · have hb5 := fun ob ob' => (hb3.alloc hb3.size ob).alloc (hb3.alloc hb3.size ob).size ob'
        have hd : ((J.aft k).length == 0) = true := by simpa using hal
        have hfy := freeTo_yes hal
        have HFY : Hid (freeTo J (k + 1) = freeTo J k ++ [k]) := hfy
        clear hfy
        go_wp2_with (at_builtin; refine wpList_append_mem rfl (.tmp 17) (.tmp 19) 56 rfl w.heap.size 3 i0 _ 1 8 Try.underlying56 hi0 hz0 hz1 hz2 rfl (by decide) _ _ _ rfl ((hown.alloc _).alloc _) (some ⟨w3.heap.size + 1, 0, none⟩) 1 1 [.int .i64 k] rfl rfl nofun ?c2 ?c1 (by unfold maxLen; omega) (by omega) (by simp; omega) ?_)
        case c2 => exact src_one (by simp)
        case c1 => intro u hu; rw [List.mem_singleton] at hu; rw [hu]; rfl
        intro v' w' hown' hg' _
        have hb7 := below_grown (hb5 _ _) (by simp; omega) hg' (fun g e => (hown.lt g e).1)
        go_wp2_with fail
        go_roundw
        case rel => exact ⟨k + 1, by omega, by go_num, hb7, by rw [HFY.out]; unfold ints at hown' ⊢; rw [List.length_append, List.map_append]; exact hown'⟩
        case measure => simp [intOf]; omega
      · have hb4 := fun ob => hb3.alloc hb3.size ob
        have hd : ((J.aft k).length == 0) = false := by simpa using hal
        have HFN : Hid (freeTo J (k + 1) = freeTo J k) := freeTo_no hal
        go_wp2_with fail
        go_roundw
        case rel => exact ⟨k + 1, by omega, by go_num, hb4 _, by rw [HFN.out]; exact hown.alloc _⟩
        case measure => simp [intOf]; omega
    · obtain rfl : k = J.n := by omega
      go_wp2_with fail
      go_ret
      exact ⟨_, rfl, hown, hb3⟩

#print axioms free_any
end Go.Proofs.Ytgmemndjclhheae
