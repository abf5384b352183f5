/-
  OUR OWN TEXT. newWaits.
-/
import Derived.Test.YtgmemndjclhheaeNd
import Derived.Test.YtgmemndjclhheaeAr
import Derived.Deep.Cut
import Derived.BigRegion
namespace Go.Proofs.Ytgmemndjclhheae
open Go.RowKit

/-- What waits holds, in memory: R: the blocks that are read alone. -/
structure WaitsAt (w : World) (R : Nat → Prop) (n q gl gb : Nat) (lf : Nat → Nat) (bv : Nat → Value) (bh : Nat → List Nat) : Prop where
  box : w.heap[q]? = some (.cells #[.slice (some ⟨gl, 0, none⟩) n n, .slice (some ⟨gb, 0, none⟩) n n] 173)
  left : w.rowIs gl 3 n (fun i => .int .i64 (lf i))
  row : w.rowIs gb 56 n bv
  own : ∀ a, a < n → w.ownsRow 0 3 1 (bv a) (bh a).length (ints (bh a))
  rq : R q
  rb : R gb
  rv : ∀ a, a < n → ∀ g, (bv a).ownBlock = some g → R g
  out : ¬ R gl

theorem own_weak {w : World} {base base' : Nat} {e : TypeId} {size : Nat} {v : Value} {n : Nat} {xs : List Value} (h : w.ownsRow base e size v n xs) (hb : base' ≤ base) : w.ownsRow base' e size v n xs := by
  refine ⟨h.1, ?_⟩
  rcases h.2 with h1 | ⟨g, cap, cur, rfl, h1, h2, h3⟩
  · exact .inl h1
  · exact .inr ⟨g, cap, cur, rfl, by omega, h2, h3⟩

theorem WaitsAt.keep {w w' : World} {R : Nat → Prop} {n q gl gb : Nat} {lf : Nat → Nat} {bv : Nat → Value} {bh : Nat → List Nat} (h : WaitsAt w R n q gl gb lf bv bh) (hR : ∀ k, R k → w'.heap[k]? = w.heap[k]?) (hl : w'.heap[gl]? = w.heap[gl]?) : WaitsAt w' R n q gl gb lf bv bh where
  box := (hR q h.rq).trans h.box
  left := h.left.of_block hl
  row := h.row.of_block (hR gb h.rb)
  own a ha := own_keep (h.own a ha) fun g e => hR g (h.rv a ha g e)
  rq := h.rq
  rb := h.rb
  rv := h.rv
  out := h.out

theorem WaitsAt.mono {w : World} {R R' : Nat → Prop} {n q gl gb : Nat} {lf : Nat → Nat} {bv : Nat → Value} {bh : Nat → List Nat} (h : WaitsAt w R n q gl gb lf bv bh) (hR : ∀ k, R k → R' k) (hl : ¬ R' gl) : WaitsAt w R' n q gl gb lf bv bh where
  box := h.box
  left := h.left
  row := h.row
  own := h.own
  rq := hR _ h.rq
  rb := hR _ h.rb
  rv a ha g e := hR _ (h.rv a ha g e)
  out := hl

/-- One number of the row is set. -/
theorem WaitsAt.set {w : World} {R : Nat → Prop} {n q gl gb : Nat} {lf lf' : Nat → Nat} {bv : Nat → Value} {bh : Nat → List Nat} (h : WaitsAt w R n q gl gb lf bv bh) (i x : Nat) (hlf : ∀ k, k < n → lf' k = if k = i then x else lf k) : WaitsAt (w.setCell ⟨gl, i, none⟩ (.int .i64 (x : Int))) R n q gl gb lf' bv bh := by
  have hne : ∀ k, R k → k ≠ gl := fun k hk e => h.out (e ▸ hk)
  have hR : ∀ k, R k → (w.setCell ⟨gl, i, none⟩ (.int .i64 (x : Int))).heap[k]? = w.heap[k]? := fun k hk => Below.heap_setCell w ⟨gl, i, none⟩ _ k (hne k hk)
  refine ⟨(hR q h.rq).trans h.box, (h.left.set i _).congr fun k hk => ?_, h.row.of_block (hR gb h.rb), fun a ha => own_keep (h.own a ha) fun g e => hR g (h.rv a ha g e), h.rq, h.rb, h.rv, h.out⟩
  rw [hlf k hk]
  split <;> rfl

/-- What newWaits answers. -/
def WaitsRes (J : Jb) (w : World) (e : Ending) (w' : World) : Prop := ∃ q gl gb bv bh, e = .returned (.pointer (some ⟨q, 0, none⟩)) ∧ WaitsAt w' (fun k => w.heap.size ≤ k ∧ k < w'.heap.size ∧ k ≠ gl) J.n q gl gb (fun i => (J.aft i).length) bv bh ∧
  w.heap.size ≤ gl ∧ gl < w'.heap.size ∧ Beh J bh ∧ Below w.heap.size w w'

/-- What newWaits' first region has made so far. -/
structure NW (J : Jb) (w w' : World) (v : Value) (L : Nat → Bool) (x3 x6 x7 x8 x9 x10 x11 x12 : Value) (gl gb q : Nat) (bv : Nat → Value) (bh : Nat → List Nat) : Prop where
  low : Below w.heap.size w w'
  p0 : L 0 = true → x6 = v
  p1 : L 1 = true → x7 = .int .i64 J.n
  p2 : L 2 = true → x8 = .slice (some ⟨gl, 0, none⟩) J.n J.n ∧ w.heap.size ≤ gl ∧ w'.rowIs gl 3 J.n (fun _ => .int .i64 0)
  p3 : L 3 = true → x9 = v
  p4 : L 4 = true → x10 = .slice (some ⟨gb, 0, none⟩) J.n J.n ∧ RowsAt w' w.heap.size J.n gb bv bh ∧ Beh J bh
  pa : L 2 = true → L 4 = true → gl ≠ gb ∧ ∀ a, a < J.n → (bv a).ownBlock ≠ some gl
  p5 : L 5 = true → x11 = .agg #[.slice (some ⟨gl, 0, none⟩) J.n J.n, .slice (some ⟨gb, 0, none⟩) J.n J.n]
  p6 : L 6 = true → x12 = .pointer (some ⟨q, 0, none⟩) ∧ w'.heap[q]? = some (.cells #[.slice (some ⟨gl, 0, none⟩) J.n J.n, .slice (some ⟨gb, 0, none⟩) J.n J.n] 173) ∧ w.heap.size ≤ q ∧ q ≠ gl
  p7 : L 7 = true → x3 = x12

set_option maxRecDepth 100000 in
set_option maxHeartbeats 1000000 in
theorem newWaits_any (J : Jb) (w : World) (B : Nat) (v : Value) (hin : J.In w B v) (hB : B ≤ w.heap.size) (hg : J.Good) (hnb : ¬ J.Big) (hn : J.n ≤ 200) :
    Calls Try.prog 70 #[v] w (WaitsRes J w) := by
  have hin0 := hin
  obtain ⟨a, cap, rfl, hl, hc, hq⟩ := hin
  clear hq
  unfold maxLen at hc
  obtain ⟨i0, hi0, hz0, hz1, hz2⟩ := info_parts Try.info_int
  have hmk := run_make_row' (P := Try.prog) 56 3 (.int .i64 0) 8 Try.underlying56 Try.info_int rfl .i64 .i64 J.n (by omega) (by omega)
  go_enter Try.func70, Try.ntmps70
  go_upto_region 1 with fail
  refine wp_region_inv (fun L a' w' => ∃ (x3 x6 x7 x8 x9 x10 x11 x12 : Value) (gl gb q : Nat) (bv : Nat → Value) (bh : Nat → List Nat), a' = ⟨#[.slice a J.n cap, undef, .pointer none, x3, undef, undef, x6, x7, x8, x9, x10, x11, x12, undef, undef, undef, undef, undef, undef, undef, undef, undef, undef, undef, undef, undef, undef, undef, undef, undef, undef], []⟩ ∧ NW J w w' (.slice a J.n cap) L x3 x6 x7 x8 x9 x10 x11 x12 gl gb q bv bh) (by kernel_rfl) (by kernel_rfl) ?_ ?_ ?_
  · exact ⟨_, _, _, _, _, _, _, _, 0, 0, 0, fun _ => undef, fun _ => [], rfl, ⟨⟨rfl, rfl, rfl, Nat.le_refl _, fun _ _ => rfl⟩, nofun, nofun, nofun, nofun, nofun, nofun, nofun, nofun, nofun⟩⟩
  · rintro L _ W ⟨x3, x6, x7, x8, x9, x10, x11, x12, gl, gb, q, bv, bh, rfl, F⟩ hcl i o ho hL hpre K' hK
    have hi : i < 8 := (Array.getElem?_eq_some_iff.1 ho).1
    obtain rfl | rfl | rfl | rfl | rfl | rfl | rfl | rfl : i = 0 ∨ i = 1 ∨ i = 2 ∨ i = 3 ∨ i = 4 ∨ i = 5 ∨ i = 6 ∨ i = 7 := by omega
    · cases ho
      go_simp
      exact hK _ _ ⟨_, _, _, _, _, _, _, _, gl, gb, q, bv, bh, rfl, ⟨F.low, fun _ => rfl, F.p1, F.p2, F.p3, F.p4, F.pa, F.p5, F.p6, F.p7⟩⟩
    · cases ho
      obtain rfl := F.p0 (hpre 0 (by kernel_rfl))
      clear hpre
      go_simp
      exact hK _ _ ⟨_, _, _, _, _, _, _, _, gl, gb, q, bv, bh, rfl, ⟨F.low, F.p0, fun _ => rfl, F.p2, F.p3, F.p4, F.pa, F.p5, F.p6, F.p7⟩⟩
    · cases ho
      obtain rfl := F.p1 (hpre 1 (by kernel_rfl))
      clear hpre
      have hsz := F.low.size
      have hal : Below W.heap.size W (W.alloc (.cells (madeCells #[.int .i64 0] J.n) 3)) := (Below.refl _ _).alloc (Nat.le_refl _) _
      go_simp
      refine hK _ _ ⟨_, _, _, _, _, _, _, _, W.heap.size, gb, q, bv, bh, rfl, ⟨F.low.alloc F.low.size _, F.p0, F.p1, fun _ => ⟨rfl, hsz, World.rowIs_made W (.int .i64 0) J.n 3⟩, F.p3, fun h => ?_, fun _ h => ?_, fun h => ?_, fun h => ?_, F.p7⟩⟩
      · obtain ⟨e1, e2, e3⟩ := F.p4 h
        exact ⟨e1, e2.keep hal, e3⟩
      · obtain ⟨_, e2, _⟩ := F.p4 h
        have := e2.row.lt
        exact ⟨by omega, fun b hb e => by have := ((e2.own b hb).lt _ e).2; omega⟩
      · exact absurd ((hcl 5 2 (by kernel_rfl) h).symm.trans hL) nofun
      · exact absurd ((hcl 5 2 (by kernel_rfl) (hcl 6 5 (by kernel_rfl) h)).symm.trans hL) nofun
    · cases ho
      go_simp
      exact hK _ _ ⟨_, _, _, _, _, _, _, _, gl, gb, q, bv, bh, rfl, ⟨F.low, F.p0, F.p1, F.p2, fun _ => rfl, F.p4, F.pa, F.p5, F.p6, F.p7⟩⟩
    · cases ho
      obtain rfl := F.p3 (hpre 3 (by kernel_rfl))
      clear hpre
      have hsz := F.low.size
      have KB := behind_any J W B _ (hin0.keep fun k hk => F.low.block k (by omega)) (by omega) hg hnb hn
      go_simp
      refine KB.mono ?_
      rintro e W1 ⟨gb1, bv1, bh1, rfl, hr1, hbh1, hb1⟩
      have hsz1 := hb1.size
      refine hK _ _ ⟨_, _, _, _, _, _, _, _, gl, gb1, q, bv1, bh1, rfl, ⟨F.low.trans (hb1.mono hsz), F.p0, F.p1, fun h => ?_, F.p3, fun _ => ⟨rfl, ⟨hr1.row, by have := hr1.low; omega, fun b hb => own_weak (hr1.own b hb) hsz, hr1.ne, hr1.apart⟩, hbh1⟩, fun h _ => ?_, fun h => ?_, fun h => ?_, F.p7⟩⟩
      · obtain ⟨e1, e2, e3⟩ := F.p2 h
        exact ⟨e1, e2, e3.of_block (hb1.block _ e3.lt)⟩
      · obtain ⟨_, _, e3⟩ := F.p2 h
        have h1 := e3.lt
        have h2 := hr1.low
        exact ⟨by omega, fun b hb e => by have := ((hr1.own b hb).lt _ e).1; omega⟩
      · exact absurd ((hcl 5 4 (by kernel_rfl) h).symm.trans hL) nofun
      · exact absurd ((hcl 5 4 (by kernel_rfl) (hcl 6 5 (by kernel_rfl) h)).symm.trans hL) nofun
    · cases ho
      obtain ⟨rfl, _, _⟩ := F.p2 (hpre 2 (by kernel_rfl))
      obtain ⟨rfl, _, _⟩ := F.p4 (hpre 4 (by kernel_rfl))
      clear hpre
      go_simp
      exact hK _ _ ⟨_, _, _, _, _, _, _, _, gl, gb, q, bv, bh, rfl, ⟨F.low, F.p0, F.p1, F.p2, F.p3, F.p4, F.pa, fun _ => rfl, F.p6, F.p7⟩⟩
    · cases ho
      have h5 := hpre 5 (by kernel_rfl)
      have hgl := (F.p2 (hcl 5 2 (by kernel_rfl) h5)).2.2.lt
      obtain rfl := F.p5 h5
      clear hpre
      have hsz := F.low.size
      have hal : ∀ ob, Below W.heap.size W (W.alloc ob) := fun ob => (Below.refl _ _).alloc (Nat.le_refl _) ob
      go_simp
      refine hK _ _ ⟨_, _, _, _, _, _, _, _, gl, gb, W.heap.size, bv, bh, rfl, ⟨F.low.alloc F.low.size _, F.p0, F.p1, fun h => ?_, F.p3, fun h => ?_, F.pa, F.p5, fun _ => ⟨rfl, heap_alloc_new W _, hsz, ?_⟩, fun h => ?_⟩⟩
      · obtain ⟨e1, e2, e3⟩ := F.p2 h
        exact ⟨e1, e2, e3.alloc _⟩
      · obtain ⟨e1, e2, e3⟩ := F.p4 h
        exact ⟨e1, e2.keep (hal _), e3⟩
      · omega
      · exact absurd ((hcl 7 6 (by kernel_rfl) h).symm.trans hL) nofun
    · cases ho
      go_simp
      exact hK _ _ ⟨_, _, _, _, _, _, _, _, gl, gb, q, bv, bh, rfl, ⟨F.low, F.p0, F.p1, F.p2, F.p3, F.p4, F.pa, F.p5, F.p6, fun _ => rfl⟩⟩
  · rintro L _ W ⟨x3, x6, x7, x8, x9, x10, x11, x12, gl, gb, q, bv, bh, rfl, F⟩ hall
    obtain ⟨rfl, hgl, hrl⟩ := F.p2 (hall 2 (by decide))
    obtain ⟨rfl, hrb, hbh⟩ := F.p4 (hall 4 (by decide))
    obtain ⟨rfl, hq, hqs, hqn⟩ := F.p6 (hall 6 (by decide))
    obtain rfl := F.p7 (hall 7 (by decide))
    have hpa := F.pa (hall 2 (by decide)) (hall 4 (by decide))
    have hlow := F.low
    clear F
    have hglt := hrl.lt
    have hW : WaitsAt W (fun k => w.heap.size ≤ k ∧ k < W.heap.size ∧ k ≠ gl) J.n q gl gb (fun i => if i < 0 then (J.aft i).length else 0) bv bh := by
      refine ⟨hq, hrl.congr fun i _ => by simp, hrb.row, fun b hb => own_weak (hrb.own b hb) (Nat.zero_le _), ⟨hqs, (Array.getElem?_eq_some_iff.1 hq).1, hqn⟩, ⟨hrb.low, hrb.row.lt, fun e => hpa.1 e.symm⟩, fun b hb g e => ?_, fun h => h.2.2 rfl⟩
      have := (hrb.own b hb).lt g e
      exact ⟨this.1, this.2, fun e2 => hpa.2 b hb (e2 ▸ e)⟩
    clear hq hrl hrb hpa hqn hall
    go_wp2_with fail
    go_loopw [15] (fun iv wr => ∃ k : Nat, k ≤ J.n ∧ iv = .int .i64 k ∧ Below w.heap.size w wr ∧ W.heap.size ≤ wr.heap.size ∧ WaitsAt wr (fun k => w.heap.size ≤ k ∧ k < W.heap.size ∧ k ≠ gl) J.n q gl gb (fun i => if i < k then (J.aft i).length else 0) bv bh) (fun iv _ => J.n - (intOf iv).toNat)
    case atStart => exact ⟨0, Nat.zero_le _, rfl, hlow, Nat.le_refl _, hW⟩
    case round =>
      rename World => w3
      clear hW hlow
      obtain ⟨k, hk, rfl, hb3, hs3, hW⟩ := hrel
      by_cases hkt : k < J.n
      · obtain ⟨b, off, aa, acap, rfl, hbB, f0, f1, f2, f3, h1, h2, hx⟩ := hin0.cells hB hb3 hkt
        have hbw := hb3.alloc hb3.size (.cells #[.int .i64 (J.len k), .int .i64 (J.urg k), .slice aa (J.aft k).length acap, .int .i64 (J.num k)] 58)
        have hal : Below w3.heap.size w3 (w3.alloc (.cells #[.int .i64 (J.len k), .int .i64 (J.urg k), .slice aa (J.aft k).length acap, .int .i64 (J.num k)] 58)) := (Below.refl _ _).alloc (Nat.le_refl _) _
        have hWw := hW.keep (w' := w3.alloc (.cells #[.int .i64 (J.len k), .int .i64 (J.urg k), .slice aa (J.aft k).length acap, .int .i64 (J.num k)] 58)) (fun x hx => hal.block x (by omega)) (hal.block gl (by omega))
        have hx0 := heap_alloc_new w3 (.cells #[.int .i64 (J.len k), .int .i64 (J.urg k), .slice aa (J.aft k).length acap, .int .i64 (J.num k)] 58)
        go_upto_region 5 with fail
        obtain ⟨W4, hW4⟩ : ∃ X, w3.alloc (.cells #[.int .i64 (J.len k), .int .i64 (J.urg k), .slice aa (J.aft k).length acap, .int .i64 (J.num k)] 58) = X := ⟨_, rfl⟩
        have hs4 : w3.heap.size < W4.heap.size := by rw [← hW4]; simp
        rw [hW4] at hbw hWw hx0 ⊢
        clear hW4 hW hal hb3 f0 f1 f2 f3
        have c2 := cell_in hx0 2 _ rfl
        have q0 := cell_in hWw.box 0 _ rfl
        have g0 := hWw.left.cell hkt
        have g1 := hWw.left.frozen k
        have hset := hWw.set (lf' := fun i => if i < k + 1 then (J.aft i).length else 0) k (J.aft k).length (fun i _ => by
          by_cases e : i = k
          · subst e; simp
          · rw [if_neg e]
            by_cases h : i < k
            · rw [if_pos h, if_pos (by omega)]
            · rw [if_neg h, if_neg (by omega)])
        have hbs : Below w.heap.size w (W4.setCell ⟨gl, k, none⟩ (.int .i64 ((J.aft k).length : Int))) := hbw.setCell (by exact hgl) _
        go_big_region
        clear c2 q0 g0 g1 hWw hbw
        go_wp2_with fail
        go_roundw
        case rel => exact ⟨k + 1, by omega, by go_num, hbs.trans ⟨rfl, rfl, rfl, Nat.le_refl _, fun _ _ => rfl⟩, by simp; omega, hset.keep (fun _ _ => rfl) rfl⟩
        case measure => simp [intOf]; omega
      · obtain rfl : k = J.n := by omega
        go_wp2_with fail
        go_ret
        refine ⟨q, gl, gb, bv, bh, rfl, ?_, hgl, by omega, hbh, hb3⟩
        have h := hW.mono (R' := fun k => w.heap.size ≤ k ∧ k < w3.heap.size ∧ k ≠ gl) (fun k hk => ⟨hk.1, by omega, hk.2.2⟩) (fun h => h.2.2 rfl)
        exact ⟨h.box, h.left.congr fun i hi => by rw [if_pos hi], h.row, h.own, h.rq, h.rb, h.rv, h.out⟩

#print axioms newWaits_any
end Go.Proofs.Ytgmemndjclhheae
