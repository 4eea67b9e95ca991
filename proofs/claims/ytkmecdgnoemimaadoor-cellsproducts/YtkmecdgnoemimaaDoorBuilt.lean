/- What built answers: the complex of what an iterator hands on; and slices.Values of whatever slice of texts. -/
import Derived.Test.YtkmecdgnoemimaaDoorMake
namespace Go.Proofs.YtkmecdgnoemimaaDoor
open Go.RowKit Go.Shelf Go.Sort Go.Maps Go.Deep

attribute [local go_sem] Oper.semAt_some

set_option maxRecDepth 100000 in
theorem values_none (F : Fence) (n : Nat) (hF : F.fn 63) (hro : F.round = none) (l Bs cap : Nat) (a : Option Addr) (J Jx : List Fc → World → Prop)
    (W : World) (hBs : W.cell? ⟨Bs, 0, none⟩ = some (.slice a 0 cap)) (h0 : J [] W) :
    CallsIn F n Tryd.prog 63 #[.func (.yield l) #[] #[], .pointer (some ⟨Bs, 0, none⟩)] W fun e W' => (∃ v, e = .returned v) ∧
      ((∃ ys, ys = ([] : List Fc) ∧ J ys W') ∨ (∃ pre, pre <+: ([] : List Fc) ∧ Jx pre W')) := by
  refine callsIn_of_wp Tryd.func63 rfl hF ?_ hro
  simp only [Tryd.ntmps63, List.size_toArray, List.length_cons, List.length_nil, Nat.reduceAdd, Nat.reduceSub, Array.replicate_succ, Array.replicate_zero, List.push_toArray, List.append_toArray, List.nil_append, List.cons_append]
  gi_wp2
  gi_loopw [7] (fun i wr => i = .int .i64 0 ∧ wr = W) (fun _ _ => 0)
  case atStart => exact ⟨rfl, rfl⟩
  case round =>
    obtain ⟨rfl, rfl⟩ := hrel
    gi_wp2
    go_end0
    exact ⟨⟨_, rfl⟩, .inl ⟨_, rfl, h0⟩⟩

/-- slices.Values of a slice of texts, wherever it lies. -/
theorem values_any (W : World) (a : Option Addr) (n cap : Nat) (xs : List Fc) (hn : xs.length = n) (hz : xs.length ≤ 100000) (hs : Strs W (.slice a n cap) (xs.map Subtype.val)) :
    SeqStopsK Fence.wide 9 Tryd.prog 63 #[.pointer (some ⟨W.heap.size, 0, none⟩)] (fun x : Fc => #[encStr x.1]) (Below (W.alloc (.cells #[.slice a n cap] 52)).heap.size) (fun ys => ys = xs) (fun pre => pre <+: xs) xs.length (W.alloc (.cells #[.slice a n cap] 52)) := by
  intro l J Jx W2 hW _ _ hY h0
  have hbn := box_new W (.slice a n cap) 52
  have hb2 := (hW.cell (p := ⟨W.heap.size, 0, none⟩) (by simp)).trans hbn.1
  subst hn
  cases xs with
  | nil => exact values_none Fence.wide 9 trivial rfl l W.heap.size cap a J Jx W2 hb2 h0
  | cons x0 xs =>
    obtain ⟨a', cap', e, -, hx⟩ := hs.open_
    obtain ⟨rfl, rfl⟩ : a = a' ∧ cap = cap' := by simpa using e
    obtain ⟨b, off, rfl, -, hbl, hc⟩ := hx (by simp)
    refine values_rounds Fence.wide 9 trivial rfl (by decide) l W.heap.size _ b off cap (x0 :: xs) hz (by simp; omega) J Jx hY W2 hb2 (fun j hj => ?_) h0
    rw [hW.cell (p := ⟨b, off + j, none⟩) (by simp; omega)]
    have h1 := hc j (by simpa using hj)
    rw [List.getElem?_map, List.getElem?_eq_getElem hj, Option.map_some, Option.getD_some] at h1
    exact cell_kept h1 (World.grownBy_alloc W _ none) (fun r e => by cases e)

theorem seq_later {gf : Nat} {lb : Array Value} {xs : List Fc} {w w' : World} (h : SeqStopsK Fence.wide 9 Tryd.prog gf lb (fun x : Fc => #[encStr x.1]) (BelowC w.heap.size) (fun ys => ys = xs) (fun pre => pre <+: xs) xs.length w) (hB : Below w.heap.size w w') :
    SeqStopsK Fence.wide 9 Tryd.prog gf lb (fun x : Fc => #[encStr x.1]) (BelowC w'.heap.size) (fun ys => ys = xs) (fun pre => pre <+: xs) xs.length w' := by
  intro l J Jx W hW hJ hJx hY h0
  refine h l J Jx W (hB.trans (hW.mono hB.size)) hJ hJx (fun pre x W1 hj hp => ?_) h0
  obtain ⟨fn, tmps, assign, body, hy, hR⟩ := hY pre x W1 hj hp
  refine ⟨fn, tmps, assign, body, hy, hR.mono ?_⟩
  rintro e W' (⟨rfl, h1, h2⟩ | ⟨rfl, h1⟩)
  · exact .inl ⟨rfl, h1, h2.1.mono hB.size, h2.2⟩
  · exact .inr ⟨rfl, h1⟩

/-- What built answers. -/
def BuiltSays (a : Nat → Addr) (ts : List (List UInt8)) (w : World) (e : Ending) (w' : World) : Prop :=
  Below w.heap.size w w' ∧ ((Over ts ∧ e = .returned (.tuple #[.agg #[.slice none 0 0], .iface 165 (.pointer (some (a 1)))])) ∨
    (¬ Over ts ∧ ∃ v ss, e = .returned (.tuple #[.agg #[v], .nilIface]) ∧ OwnRows w.heap.size w' v ((srtS ss).map ints) ∧ ss.Nodup ∧ ∀ x, x ∈ ss ↔ FaceOf ts x ∧ ¬ InnerOf ts x))

set_option maxRecDepth 100000 in
set_option maxHeartbeats 1000000 in
theorem builtC_ {a : Nat → Addr} {s : Nat → ByteArray} (gf : Nat) (lb : Array Value) (xs : List Fc) (w : World) (hE : Errs a s w)
    (hent : ∀ args w, (callFunc gf args).run Tryd.prog w = .ok (.enter gf args) w)
    (hseq : SeqStopsK Fence.wide 9 Tryd.prog gf lb (fun x : Fc => #[encStr x.1]) (BelowC w.heap.size) (fun ys => ys = xs) (fun pre => pre <+: xs) xs.length w) :
    Calls Tryd.prog 27 #[.func (.func gf) #[] lb] w fun e w' => BuiltSays a (xs.map Subtype.val) w e w' := by
  have hBa : Below w.heap.size w (w.alloc (.cells #[.slice none 0 0] 27)) := (Below.refl _ w).alloc (Nat.le_refl _) _
  have hgat := heapC_ gf lb xs (w.alloc (.cells #[.slice none 0 0] 27)) (hE.below hBa) hent (seq_later hseq hBa)
  have hbox := box_new w (.slice none 0 0) 27
  obtain ⟨ts, hts⟩ : ∃ ts, xs.map Subtype.val = ts := ⟨_, rfl⟩
  rw [hts] at hgat ⊢
  clear hseq hent hts
  go_enter Tryd.func27, Tryd.ntmps27
  go_wp2_with fail
  refine hgat.mono ?_
  clear hgat
  rintro e w2 ⟨hB2, ⟨b, F, G, rfl, hP, hH⟩ | ⟨hov, rfl⟩⟩
  · have hfew := (hH.pile 0).few
    have hsh := (hH.pile 0).short
    have htold := told_ b F G w2 hP (by omega) (fun x hx => by have := hsh x hx; omega)
    have HH : Hid (Heaped ts F G) := hH
    clear hP hH hsh hfew
    go_wp2_with fail
    refine htold.mono ?_
    clear htold
    rintro e w3 ⟨v, ss, rfl, h1, h2, h3, h4⟩
    have H1 : Hid (OwnRows w2.heap.size w3 v ((srtS ss).map ints)) := h1
    obtain ⟨a3, c3, rfl, -, -⟩ := h1.rows.open_
    have hB3 := below_after hB2 h4
    have c1 : w3.cell? ⟨w.heap.size, 0, none⟩ = some (.slice none 0 0) := (hB3.cell (p := ⟨w.heap.size, 0, none⟩) (by simp)).trans hbox.1
    have z1 : w3.frozen? ⟨w.heap.size, 0, none⟩ = false := (hB3.frozen (p := ⟨w.heap.size, 0, none⟩) (by simp)).trans hbox.2
    have c2 := World.cell?_setCell_same' w3 ⟨w.heap.size, 0, none⟩ (.slice a3 ((srtS ss).map ints).length c3) (by rw [c1]; rfl)
    rw [List.length_map] at c2
    clear h1
    go_wp2
    refine bodyPost_ret (v := .tuple #[.agg #[.slice a3 (srtS ss).length c3], .nilIface]) ?_ rfl ?_
    · simp [results, Tryd.f27, go_sem, c2]
    · have h1 := H1.out
      rw [List.length_map] at h1
      refine ⟨(below_out hB3).setCell (p := ⟨w.heap.size, 0, none⟩) (Nat.le_refl _) _, .inr ⟨HH.out.notOver, _, ss, rfl, ?_, h2, fun x => ?_⟩⟩
      · exact (h1.setCell (p := ⟨w.heap.size, 0, none⟩) (by have := hB2.size; simp at this; show w.heap.size < w2.heap.size; omega) _).lower (by have := hB2.size; simp at this; omega)
      · rw [h3, HH.out.mem, HH.out.memG]
  · have hB3 := below_after hB2 (Below.refl _ w2)
    have c1 : w2.cell? ⟨w.heap.size, 0, none⟩ = some (.slice none 0 0) := (hB3.cell (p := ⟨w.heap.size, 0, none⟩) (by simp)).trans hbox.1
    have z1 : w2.frozen? ⟨w.heap.size, 0, none⟩ = false := (hB3.frozen (p := ⟨w.heap.size, 0, none⟩) (by simp)).trans hbox.2
    have c2 := World.cell?_setCell_same' w2 ⟨w.heap.size, 0, none⟩ (.slice none 0 0) (by rw [c1]; rfl)
    have HOV : Hid (Over ts) := hov
    clear hov
    go_wp2
    refine bodyPost_ret (v := .tuple #[.agg #[.slice none 0 0], .iface 165 (.pointer (some (a 1)))]) ?_ rfl ?_
    · simp [results, Tryd.f27, go_sem, c2]
    · exact ⟨(below_out hB3).setCell (p := ⟨w.heap.size, 0, none⟩) (Nat.le_refl _) _, .inl ⟨HOV.out, rfl⟩⟩

theorem built_ {a : Nat → Addr} {s : Nat → ByteArray} (gf : Nat) (lb : Array Value) (xs : List Fc) (w : World) (hE : Errs a s w)
    (hent : ∀ args w, (callFunc gf args).run Tryd.prog w = .ok (.enter gf args) w)
    (hseq : SeqStopsK Fence.wide 9 Tryd.prog gf lb (fun x : Fc => #[encStr x.1]) (Below w.heap.size) (fun ys => ys = xs) (fun pre => pre <+: xs) xs.length w) :
    Calls Tryd.prog 27 #[.func (.func gf) #[] lb] w fun e w' => BuiltSays a (xs.map Subtype.val) w e w' := builtC_ gf lb xs w hE hent (seq_less hseq)

end Go.Proofs.YtkmecdgnoemimaaDoor
