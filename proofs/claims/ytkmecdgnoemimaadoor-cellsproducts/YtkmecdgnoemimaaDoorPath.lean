/- A value appended onto a row of one's own: the longer row, and the row as it was, for as long as nobody writes behind it. -/
import Derived.Test.YtkmecdgnoemimaaDoorHeapB
import Derived.Test.YtkmecdgnoemimaaDoorGather
import Derived.Lib.ConvBytes
import Derived.ArgAppend
import Derived.Maps.AppendAt
namespace Go.Proofs.YtkmecdgnoemimaaDoor
open Go.RowKit Go.Shelf Go.Sort Go.Maps

theorem owns_size {w : World} {base n : Nat} {e : TypeId} {v : Value} {xs : List Value} (h : w.ownsRow base e 1 v n xs) : xs.length = n := by have := h.1; omega
theorem owns_base {w : World} {base base' n : Nat} {e : TypeId} {v : Value} {xs : List Value} (h : w.ownsRow base e 1 v n xs) (hb : base' ≤ base) : w.ownsRow base' e 1 v n xs := by
  refine ⟨h.1, ?_⟩
  rcases h.2 with h0 | ⟨g, cap, cur, h1, h2, h3⟩
  · exact .inl h0
  · exact .inr ⟨g, cap, cur, h1, by omega, h3⟩
/-- A row keeps as long as its block of cells does. -/
theorem owns_cells {w w' : World} {base n : Nat} {e : TypeId} {v : Value} {xs : List Value} (h : w.ownsRow base e 1 v n xs) (hk : KeepsCells w w') : w'.ownsRow base e 1 v n xs := by
  refine ⟨h.1, ?_⟩
  rcases h.2 with h0 | ⟨g, cap, cur, h1, h2, h3, h4⟩
  · exact .inl h0
  · exact .inr ⟨g, cap, cur, h1, h2, hk g _ h3 rfl, h4⟩
theorem owns_less {w : World} {base g n cap : Nat} {e : TypeId} {xs : List Value} {u : Value} (h : w.ownsRow base e 1 (.slice (some ⟨g, 0, none⟩) (n + 1) cap) (n + 1) (xs ++ [u])) : w.ownsRow base e 1 (.slice (some ⟨g, 0, none⟩) n cap) n xs := by
  have hl : xs.length = n := by have := h.1; simp at this; omega
  refine ⟨by omega, ?_⟩
  rcases h.2 with ⟨h0, -⟩ | ⟨g', cap', cur, h1, h2, h3, h4, h5, h6, h7⟩
  · cases h0
  · cases h1
    refine .inr ⟨g, cap, cur, rfl, h2, h3, by omega, h5, h6, ?_⟩
    have := congrArg (List.take n) h7
    rw [List.take_take, List.take_left' hl] at this
    rw [← this]; congr 1; omega

/-- All blocks of cells but a slice's own are as they were. -/
def Others (v : Value) (W W' : World) : Prop := W.heap.size ≤ W'.heap.size ∧ ∀ (j : Nat) (o : Obj), some j ≠ v.ownBlock → W.heap[j]? = some o → o.isCells = true → W'.heap[j]? = some o
theorem Others.refl (v : Value) (W : World) : Others v W W := ⟨Nat.le_refl _, fun _ _ _ h _ => h⟩
theorem Others.trans {v : Value} {A B C : World} (h : Others v A B) (k : Others v B C) : Others v A C := ⟨Nat.le_trans h.1 k.1, fun j o hj ho hc => k.2 j o hj (h.2 j o hj ho hc) hc⟩
theorem Others.of_cells {v : Value} {n : Nat} {W W' : World} (h : BelowC n W W') : Others v W W' := ⟨h.1.size, fun j o _ ho hc => h.2 j o ho hc⟩
theorem Others.before {v : Value} {A B C : World} (h : Below A.heap.size A B) (k : Others v B C) : Others v A C :=
  ⟨Nat.le_trans h.size k.1, fun j o hj ho hc => k.2 j o hj ((h.block j (Array.getElem?_eq_some_iff.1 ho).1).trans ho) hc⟩

/-- A value has been appended onto v: v1 is the longer row; v is as it was for as long as v1's first cells and all other blocks are. -/
structure Stepped (base : Nat) (e : TypeId) (n : Nat) (xs : List Value) (u : Value) (W : World) (v : Value) (w1 : World) (v1 : Value) : Prop where
  row : w1.ownsRow base e 1 v1 (n + 1) (xs ++ [u])
  below : Below base W w1
  back : ∀ W', Others v1 w1 W' → W'.ownsRow base e 1 v1 (n + 1) (xs ++ [u]) → W'.ownsRow base e 1 v n xs
  others : ∀ W', Others v1 w1 W' → Others v W W'
theorem Stepped.before {base : Nat} {e : TypeId} {n : Nat} {xs : List Value} {u : Value} {A W : World} {v : Value} {w1 : World} {v1 : Value} (h : Stepped base e n xs u W v w1 v1) (hA : Below A.heap.size A W) (hb : base ≤ A.heap.size) : Stepped base e n xs u A v w1 v1 :=
  ⟨h.row, (hA.mono hb).trans h.below, h.back, fun W' k => (h.others W' k).before hA⟩

theorem others_step {v v1 : Value} {W w1 : World} (hg : W.grownBy w1 v.ownBlock) (hd : v1.ownBlock = v.ownBlock ∨ ∀ b, v1.ownBlock = some b → W.heap.size ≤ b) (W' : World) (k : Others v1 w1 W') : Others v W W' := by
  refine ⟨Nat.le_trans hg.size k.1, fun j o hj ho hc => ?_⟩
  have hlt := (Array.getElem?_eq_some_iff.1 ho).1
  refine k.2 j o (fun e => ?_) ((hg.block j hlt hj).trans ho) hc
  rcases hd with hd | hd
  · exact hj (by rw [← hd]; exact e)
  · have := hd j e.symm
    omega

theorem append_path {P : Program} (w : World) (base : Nat) (t ty e : TypeId) (i : TypeInfo) (z : Value) (bytes : Nat) (ht : P.underlying t = some (.slice e)) (hi : P.info? e = some i) (hz : i.zero = some z) (hsize : i.size = 1) (hby : i.bytes = bytes) (hzs : z.cells.size = 1)
    (v : Value) (n : Nat) (xs : List Value) (hown : w.ownsRow base e 1 v n xs) (ad : Addr) (c : Nat) (u : Value) (hu : w.cell? ad = some u) (h1 : u.oneCell' = true) (hb : base ≤ w.heap.size) (hn : n ≤ 1000) (hbs : bytes ≤ 1000) :
    ∃ v' w', (Builtin.append_ #[t, t] ty #[v, .slice (some ad) 1 c]).run P w = .ok v' w' ∧ Stepped base e n xs u w v w' v' := by
  have hnew : ∀ (j : Nat) (x : Value), [u][j]? = some x → w.cell? (ad.add j) = some x := fun j x hj => by
    cases j with
    | zero =>
      obtain rfl : u = x := by simpa using hj
      rw [show ad.add 0 = ad from by cases ad; simp [Addr.add]]; exact hu
    | succ j => simp at hj
  have h1' : ∀ x ∈ [u], x.oneCell' = true := fun x hx => by rw [List.mem_singleton.1 hx]; exact h1
  have hbb : (n + 1) * bytes ≤ 140737488355328 := Nat.le_trans (Nat.mul_le_mul (show n + 1 ≤ 1001 by omega) hbs) (by decide)
  have hmx : n + 1 ≤ maxLen := by unfold maxLen; omega
  rcases hown.2 with ⟨rfl, rfl⟩ | ⟨g, cap, cur, rfl, hbg, hg, hnc, hcm, hcs, htake⟩
  · obtain ⟨v', w', hr, h2, h3, -, h5⟩ := run_append_own_at (P := P) w w.heap.size t ty e i z 1 bytes ht hi hz hsize hby hzs (by decide) (.slice none 0 0) 0 xs ⟨hown.1, .inl ⟨rfl, rfl⟩⟩ ad 1 c [u] rfl hnew h1' hmx hbb (Nat.le_refl _)
    refine ⟨v', w', hr, ⟨owns_base h2 hb, (Below.refl base w).grown h3 hb (fun k e => by simp [Value.ownBlock] at e), fun _ _ _ => ⟨hown.1, .inl ⟨rfl, rfl⟩⟩, others_step h3 ?_⟩⟩
    rcases h5 with h5 | h5
    · exact .inl h5
    · exact .inr (fun b hb' => by rw [h5] at hb'; cases hb'; exact Nat.le_refl _)
  · by_cases hroom : n + 1 ≤ cap
    · obtain ⟨w', hr, h2, h3⟩ := run_append_fits (P := P) w base t ty e i 1 ht hi hsize g n cap xs hown ad 1 c [u] rfl hnew h1' hroom
      exact ⟨_, w', hr, ⟨h2, (Below.refl base w).grown h3 hb (fun k e => by cases e; exact hbg), fun _ _ h => owns_less h, others_step h3 (.inl rfl)⟩⟩
    · have hold : ∀ (j : Nat) (x : Value), xs[j]? = some x → w.cell? ((⟨g, 0, none⟩ : Addr).add j) = some x := fun j x hj => by
        rw [Addr.add_lit, Nat.zero_add]
        rw [← htake, List.getElem?_take] at hj
        split at hj
        · simp [World.cell?, hg]; simpa using hj
        · cases hj
      obtain ⟨v', w', hr, h2, h3⟩ := run_append_arg_grows (P := P) w t ty e i z 1 bytes ht hi hz hsize hby hzs (by decide) ⟨g, 0, none⟩ n cap xs hown.1 hold ad 1 c [u] rfl hnew (by omega) hmx hbb
      have hgl := (Array.getElem?_eq_some_iff.1 hg).1
      have hnb : ∀ b, v'.ownBlock = some b → w.heap.size ≤ b := fun b hb' => by
        rcases h2.2 with ⟨rfl, h0⟩ | ⟨g', cap', cur', rfl, hbg', -⟩
        · omega
        · simp [Value.ownBlock] at hb'; omega
      have hg3 : w.grownBy w' (Value.slice (some ⟨g, 0, none⟩) n cap).ownBlock := ⟨h3.os, h3.tape, h3.output, h3.size, fun k hk _ => h3.block k hk (by simp)⟩
      refine ⟨v', w', hr, ⟨owns_base h2 hb, (Below.refl base w).grown h3 hb (fun k e => by cases e), fun W' k _ => ?_, others_step hg3 (.inr hnb)⟩⟩
      refine ⟨hown.1, .inr ⟨g, cap, cur, rfl, hbg, k.2 g _ (fun e => ?_) ((h3.block g hgl (by simp)).trans hg) rfl, hnc, hcm, hcs, htake⟩⟩
      have := hnb g e.symm
      omega

/-- A byte's value in a cell. -/
def byteV (c : UInt8) : Value := .int .u8 (c.toNat : Int)
/-- A path of bytes, in a row of one's own from a place on. -/
def PathAt (base : Nat) (W : World) (v : Value) (x : List UInt8) : Prop := W.ownsRow base 5 1 v x.length (x.map byteV)
theorem PathAt.cells {base : Nat} {W W' : World} {v : Value} {x : List UInt8} (h : PathAt base W v x) (hk : KeepsCells W W') : PathAt base W' v x := owns_cells h hk
theorem PathAt.nil (base : Nat) (W : World) : PathAt base W (.slice none 0 0) [] := World.ownsRow_nil _ _ _ _
theorem PathAt.form {base : Nat} {W : World} {v : Value} {x : List UInt8} (h : PathAt base W v x) (h0 : x ≠ []) : ∃ g cap, v = .slice (some ⟨g, 0, none⟩) x.length cap := by
  rcases h.2 with ⟨-, hn⟩ | ⟨g, cap, cur, rfl, -⟩
  · exact absurd (List.length_eq_zero_iff.1 hn) h0
  · exact ⟨g, cap, rfl⟩
theorem PathAt.back {base : Nat} {W : World} {v : Value} {x : List UInt8} (h : PathAt base W v x) (h0 : x ≠ []) : ∃ g cap, v = .slice (some ⟨g, 0, none⟩) x.length cap ∧ (convert 88 9 v).run Tryd.prog W = .ok (encStr x) W := by
  rcases h.2 with ⟨-, hn⟩ | ⟨g, cap, cur, rfl, -, hg, -, -, -, htake⟩
  · exact absurd (List.length_eq_zero_iff.1 hn) h0
  · refine ⟨g, cap, rfl, run_convert_bytes_back W 88 9 5 ⟨g, 0, none⟩ cap x Tryd.underlying88 Tryd.underlying5 Tryd.underlying9 (fun j hj => ?_)⟩
    rw [Addr.add_lit, Nat.zero_add]
    have h2 : (x.map byteV)[j]? = some (byteV x[j]) := by rw [List.getElem?_map, List.getElem?_eq_getElem hj]; rfl
    rw [← htake, List.getElem?_take] at h2
    split at h2
    · simp [World.cell?, hg]; simpa [byteV] using h2
    · cases h2

end Go.Proofs.YtkmecdgnoemimaaDoor
