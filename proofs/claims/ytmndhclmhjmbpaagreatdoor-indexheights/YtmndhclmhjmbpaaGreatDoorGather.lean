/- A set's numbers, rising: what the text of a set tells. What gather answers: a map of all faces of the sets, or which error they have. -/
import Derived.Test.YtmndhclmhjmbpaaGreatDoorMath2
import Derived.Test.YtmndhclmhjmbpaaGreatDoorHeap
namespace Go.Proofs.YtmndhclmhjmbpaaGreatDoor

/-- A set's numbers, rising. -/
def srt (l : List Int) : List Int := l.mergeSort (fun x y => decide (x ≤ y))
theorem srt_mem (l : List Int) (v : Int) : v ∈ srt l ↔ v ∈ l := (List.mergeSort_perm l _).mem_iff
theorem srt_length (l : List Int) : (srt l).length = l.length := (List.mergeSort_perm l _).length_eq
theorem srt_rising {l : List Int} (h : l.Nodup) : Rising (srt l) := by
  have hs : (srt l).Pairwise (fun a b => decide (a ≤ b) = true) := List.pairwise_mergeSort (fun a b c h1 h2 => by simp at h1 h2 ⊢; omega) (fun a b => by simp; omega) l
  have hn : (srt l).Nodup := (List.mergeSort_perm l _).nodup_iff.2 h
  refine (hs.and hn).imp ?_
  rintro a b ⟨h1, h2⟩
  simp at h1
  omega
theorem srt_told {l out : List Int} (h : l.Nodup) (hr : Rising out) (hm : ∀ v, v ∈ out ↔ v ∈ l) : out = srt l := rising_told hr (srt_rising h) (fun v => by rw [hm, srt_mem])

theorem text_srt {l : List Int} {t : List UInt8} (h : SetOk l) (ht : TextOf l t) : ints t = srt l := text_sorted ht (srt_rising h.2.1) (fun v => srt_mem l v)
theorem text_len {l : List Int} {t : List UInt8} (h : SetOk l) (ht : TextOf l t) : t.length = l.length := by rw [← ints_length, text_srt h ht, srt_length]

end Go.Proofs.YtmndhclmhjmbpaaGreatDoor

namespace Go.Proofs.YtmndhclmhjmbpaaGreatDoor
open Go.RowKit Go.Shelf Go.Sort Go.Maps Go.Deep

/-- What gather answers. -/
def GatherSays (a : Nat → Addr) (l : List (List Int)) (w : World) (e : Ending) (w' : World) : Prop :=
  Below w.heap.size w w' ∧ ((¬ (∀ x ∈ l, SetOk x) ∧ e = .returned (.tuple #[.map none, .iface 233 (.pointer (some (a 3)))])) ∨
    ((∀ x ∈ l, SetOk x) ∧ ∃ ts : List (List UInt8), ts.map ints = l.map srt ∧
      ((∃ b F G, e = .returned (.tuple #[.map (some b), .nilIface]) ∧ PileAt w' b F G ∧ Heaped ts F G) ∨ (Over ts ∧ e = .returned (.tuple #[.map none, .iface 233 (.pointer (some (a 1)))])))))
theorem GatherSays.bad {a : Nat → Addr} {l : List (List Int)} {w : World} {e : Ending} {w' : World} (hB : Below w.heap.size w w') {k : Nat} (hk : k < l.length) (h : ¬ SetOk (l[k]?.getD [])) (he : e = .returned (.tuple #[.map none, .iface 233 (.pointer (some (a 3)))])) : GatherSays a l w e w' :=
  ⟨hB, .inl ⟨fun ha => h (by rw [List.getElem?_eq_getElem hk, Option.getD_some]; exact ha _ (List.getElem_mem hk)), he⟩⟩
theorem GatherSays.rest {a : Nat → Addr} {l : List (List Int)} {w w1 : World} {e : Ending} {w' : World} {ts : List (List UInt8)} (hB : Below w.heap.size w w1) (hk : ∀ x ∈ l, SetOk x) (ht : ts.map ints = l.map srt) (h : HeapSays a ts w1 e w') : GatherSays a l w e w' :=
  ⟨hB.trans (h.1.mono hB.size), .inr ⟨hk, ts, ht, h.2⟩⟩

theorem faces_of (ts : List (List UInt8)) (h : ∀ t ∈ ts, 0 < t.length ∧ t.length ≤ 1000) : ∃ xs : List Fc, xs.map Subtype.val = ts := by
  induction ts with
  | nil => exact ⟨[], rfl⟩
  | cons t ts ih =>
    obtain ⟨xs, e⟩ := ih (fun u hu => h u (by simp [hu]))
    exact ⟨⟨t, h t (by simp)⟩ :: xs, by simp [e]⟩
theorem sizes_of {ts : List (List UInt8)} {l : List (List Int)} (ht : ts.map ints = l.map srt) (hk : ∀ x ∈ l, SetOk x) (hl : ∀ x ∈ l, x.length ≤ 1000) : ∀ t ∈ ts, 0 < t.length ∧ t.length ≤ 1000 := fun t hm => by
  have : ints t ∈ l.map srt := by rw [← ht]; exact List.mem_map.2 ⟨t, hm, rfl⟩
  obtain ⟨x, hx, e⟩ := List.mem_map.1 this
  have h1 : t.length = x.length := by rw [← ints_length, ← e, srt_length]
  have h2 := (hk x hx).1
  have := hl x hx
  have : 0 < x.length := List.length_pos_iff.2 h2
  omega
theorem ok_snoc {l : List (List Int)} {k : Nat} (hk : k < l.length) (h : ∀ x ∈ l.take k, SetOk x) (hx : SetOk (l[k]?.getD [])) : ∀ x ∈ l.take (k + 1), SetOk x := by
  rw [List.getElem?_eq_getElem hk, Option.getD_some] at hx
  rw [List.take_add_one, List.getElem?_eq_getElem hk]
  intro x hm
  rcases List.mem_append.1 hm with a | a
  · exact h x a
  · simp at a; subst a; exact hx
theorem srt_snoc {l : List (List Int)} {k : Nat} (hk : k < l.length) : (l.take (k + 1)).map srt = (l.take k).map srt ++ [srt (l[k]?.getD [])] := by
  rw [List.take_add_one, List.getElem?_eq_getElem hk, List.map_append, Option.getD_some]
  rfl

/-- slices.Values of texts that lie so, for heap. -/
theorem values_seq (W : World) (b cap : Nat) (xs : List Fc) (hz : xs.length ≤ 100000) (hb : b < W.heap.size) (hc : ∀ j (hj : j < xs.length), W.cell? ⟨b, 0 + j, none⟩ = some (encStr xs[j].1)) :
    SeqStopsK Fence.wide 9 Tryz.prog 117 #[.pointer (some ⟨W.heap.size, 0, none⟩)] (fun x : Fc => #[encStr x.1]) (Below (W.alloc (.cells #[.slice (some ⟨b, 0, none⟩) xs.length cap] 129)).heap.size) (fun ys => ys = xs) (fun pre => pre <+: xs) xs.length (W.alloc (.cells #[.slice (some ⟨b, 0, none⟩) xs.length cap] 129)) := by
  intro l J Jx W2 hW _ _ hY h0
  have hbn := box_new W (.slice (some ⟨b, 0, none⟩) xs.length cap) 129
  refine values_rounds Fence.wide 9 trivial rfl (by decide) l W.heap.size _ b 0 cap xs hz (by simp; omega) J Jx hY W2 ((hW.cell (p := ⟨W.heap.size, 0, none⟩) (by simp)).trans hbn.1) (fun j hj => ?_) h0
  rw [hW.cell (p := ⟨b, 0 + j, none⟩) (by simp; omega)]
  exact cell_kept (hc j hj) (World.grownBy_alloc W _ none) (fun r e => by cases e)

set_option maxRecDepth 100000 in
set_option maxHeartbeats 2000000 in
theorem gather_ {a : Nat → Addr} {s : Nat → ByteArray} (vl : Value) (l : List (List Int)) (w : World) (hE : Errs a s w) (hl : Rows w vl l) (hll : l.length ≤ 100000) (hle : ∀ x ∈ l, x.length ≤ 1000) :
    Calls Tryz.prog 65 #[vl] w fun e w' => GatherSays a l w e w' := by
  have HE : Hid (∀ x ∈ l, x.length ≤ 1000) := hle
  obtain ⟨a0, ca, rfl, -, ha⟩ := hl.open_
  obtain ⟨n, hn⟩ : ∃ n, l.length = n := ⟨_, rfl⟩
  have HN : Hid (l.length = n) := hn
  rw [hn] at hll ⊢
  rw [hn] at ha
  have hmk := run_make_row' (P := Tryz.prog) 129 9 (.string ⟨#[]⟩) 16 Tryz.underlying129 Tryz.info9 rfl .i64 .i64 n (by omega) (by omega)
  clear hle hn hl
  go_enter Tryz.func65, Tryz.ntmps65
  go_wp2
  go_loopw [14] (fun p wr => ∃ k : Nat, k ≤ n ∧ p = .int .i64 k ∧ (∀ x ∈ l.take k, SetOk x) ∧ (∃ ts : List (List UInt8), ts.length = k ∧ ts.map ints = (l.take k).map srt ∧ wr.rowIs w.heap.size 9 n (fun j => encStr (ts[j]?.getD []))) ∧ Below w.heap.size w wr)
    (fun p _ => n - (intOf p).toNat)
  case atStart => exact ⟨0, by omega, rfl, by simp, ⟨[], rfl, by simp, (World.rowIs_made _ _ _ _).congr (fun j _ => by simp [encStr])⟩, (Below.refl _ _).alloc (Nat.le_refl _) _⟩
  case round =>
    obtain ⟨k, hk, rfl, hok, ⟨ts, htl, hti, hrow⟩, hB⟩ := hrel
    have HOK : Hid (∀ x ∈ l.take k, SetOk x) := hok
    have HTL : Hid (ts.length = k) := htl
    have HTI : Hid (ts.map ints = (l.take k).map srt) := hti
    have HR : Hid (wr.rowIs w.heap.size 9 n (fun j => encStr (ts[j]?.getD []))) := hrow
    clear hok htl hti
    by_cases hlt : k < n
    · have hkl : k < l.length := by rw [HN.out]; exact hlt
      obtain ⟨b, o, rfl, -, hb, c⟩ := ha (by omega)
      obtain ⟨a1, p1, g1, i1⟩ := c k hlt
      have hlen : (l[k]?.getD []).length ≤ 1000 := HE.out _ (by rw [List.getElem?_eq_getElem hkl]; simp)
      obtain ⟨x, hxe⟩ : ∃ x, l[k]?.getD [] = x := ⟨_, rfl⟩
      rw [hxe] at g1 i1 hlen
      have HX : Hid (l[k]?.getD [] = x) := hxe
      have g2 : wr.cell? ⟨b, o + k, none⟩ = some (.slice a1 x.length p1) := (hB.cell (p := ⟨b, o + k, none⟩) hb).trans g1
      have hc := set_text _ x wr (i1.below hB) hlen
      clear c ha g1 i1 hxe hrow
      go_wp2_with fail
      refine hc.mono ?_
      rintro e w2 ⟨hB2, ⟨hso, t, ht, rfl⟩ | ⟨hno, rfl⟩⟩
      · have hrow2 : w2.rowIs w.heap.size 9 n (fun j => encStr (ts[j]?.getD [])) := HR.out.of_block (hB2.block _ HR.out.lt)
        have HR2 : Hid (w2.rowIs w.heap.size 9 n (fun j => encStr (ts[j]?.getD []))) := hrow2
        have hcell := hrow2.cell hlt
        have hfz := hrow2.frozen k
        have HSO : Hid (SetOk x) := hso
        have HTX : Hid (TextOf x t) := ht
        have hB3 : Below w.heap.size w w2 := hB.trans (hB2.mono hB.size)
        obtain ⟨st, hst⟩ : ∃ s : ByteArray, encStr t = .string s := ⟨_, rfl⟩
        rw [hst]
        have HST : Hid (encStr t = .string st) := hst
        clear hso ht hc hrow2 hst
        go_wp2
        go_roundw
        case rel =>
          refine ⟨k + 1, by omega, by go_num, ok_snoc hkl HOK.out (by rw [HX.out]; exact HSO.out), ⟨ts ++ [t], by simp [HTL.out], by rw [List.map_append, HTI.out, srt_snoc hkl, HX.out]; simp [text_srt HSO.out HTX.out], ?_⟩, hB3.setCell (p := ⟨w.heap.size, k, none⟩) (Nat.le_refl _) _⟩
          refine (HR2.out.set k _).congr (fun j _ => ?_)
          by_cases e : j = k
          · subst e
            rw [if_pos rfl, ← HST.out, List.getElem?_append_right (by rw [HTL.out]; exact Nat.le_refl _)]
            simp [HTL.out]
          · rw [if_neg e]
            by_cases e2 : j < k
            · rw [List.getElem?_append_left (by rw [HTL.out]; exact e2)]
            · rw [List.getElem?_eq_none (by rw [HTL.out]; omega), List.getElem?_eq_none (by simp [HTL.out]; omega)]
        case measure => simp [intOf]; omega
      · have hB3 : Below w.heap.size w w2 := hB.trans (hB2.mono hB.size)
        have hgl : w2.cell? ⟨4, 0, none⟩ = some (.iface 233 (.pointer (some (a 3)))) := (hE.below hB3).glob 3 (by decide)
        have HNO : Hid (¬ SetOk x) := hno
        clear hno hc
        go_wp2_with fail
        go_quiet (fail)
        go_wp2
        go_ret2
        exact .bad (hB3.trans ⟨rfl, rfl, rfl, Nat.le_refl _, fun _ _ => rfl⟩) hkl (by rw [HX.out]; exact HNO.out) rfl
    · obtain rfl : k = n := by omega
      have hok := HOK.out
      have hti := HTI.out
      have hln := HN.out
      rw [List.take_of_length_le (by omega)] at hok hti
      obtain ⟨xs, hxs⟩ := faces_of ts (sizes_of hti hok HE.out)
      have hxl : xs.length = k := by rw [← HTL.out, ← hxs]; simp
      have hseq := values_seq wr w.heap.size k xs (by omega) hrow.lt (fun j hj => by
        have h1 := hrow.cell (show j < k by omega)
        rw [Nat.zero_add, h1, ← hxs]
        simp [hj])
      have hEw := (hE.below hB).below ((Below.refl _ wr).alloc (Nat.le_refl _) (.cells #[.slice (some ⟨w.heap.size, 0, none⟩) xs.length k] 129))
      have hheap := heap_ 117 _ xs _ hEw (enters_of Tryz.func117 (by kernel_rfl) rfl) hseq
      have hval := (callsIn_wide (n := 10)).1 (values_made Fence.wide 10 trivial rfl (some ⟨w.heap.size, 0, none⟩) k k wr)
      rw [hxl] at hheap
      have HXS : Hid (xs.map Subtype.val = ts) := hxs
      have HFI : Hid (ts.map ints = l.map srt) := hti
      have HFO : Hid (∀ x ∈ l, SetOk x) := hok
      clear hok hti hln hxs hxl hseq hEw hrow ha
      go_wp2_with (go_at_call 98; refine hval.mono ?_; rintro e w2 ⟨rfl, rfl⟩)
      refine hheap.mono ?_
      have hBa : Below w.heap.size w (wr.alloc (.cells #[.slice (some ⟨w.heap.size, 0, none⟩) k k] 129)) := hB.alloc hB.size _
      rintro e w3 ⟨hB3, ⟨b, F, G, rfl, hP, hH⟩ | ⟨hov, rfl⟩⟩
      · clear hheap hval
        go_wp2
        go_ret2
        refine .rest hBa HFO.out HFI.out ⟨hB3, .inl ⟨b, F, G, rfl, hP, ?_⟩⟩
        rw [← HXS.out]; exact hH
      · clear hheap hval
        go_wp2
        go_ret2
        refine .rest hBa HFO.out HFI.out ⟨hB3, .inr ⟨?_, rfl⟩⟩
        rw [← HXS.out]; exact hov

end Go.Proofs.YtmndhclmhjmbpaaGreatDoor
