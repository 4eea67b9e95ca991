/- What Valid answers of one good word: no error. -/
import Derived.Test.YtkaplnjknobdpaaDoorSurfName
import Derived.Deep.DeepCutAuto
namespace Go.Proofs.YtkaplnjknobdpaaDoor
open Go.RowKit Go.Sort

/-- A good word: names from 1 to 60, each twice at most. -/
structure WordOk (ws : List Int) : Prop where
  some : 0 < ws.length
  few : ws.length ≤ 120
  name : ∀ l ∈ ws, 1 ≤ l.natAbs ∧ l.natAbs ≤ 60
  twice : ∀ k, (ws.filter fun l => l.natAbs == k).length ≤ 2

/-- How often a name stands among the first letters. -/
def timesI (ws : List Int) (k name : Nat) : Nat := ((ws.take k).filter fun l => l.natAbs == name).length
theorem timesI_succ {ws : List Int} {k : Nat} (h : k < ws.length) (name : Nat) : timesI ws (k + 1) name = if name = ws[k].natAbs then timesI ws k name + 1 else timesI ws k name := by
  unfold timesI
  rw [List.take_add_one, List.getElem?_eq_getElem h, Option.toList_some, List.filter_append, List.length_append]
  by_cases e : name = ws[k].natAbs
  · rw [if_pos e, List.filter_cons_of_pos (by simp [e])]; rfl
  · rw [if_neg e, List.filter_cons_of_neg (by simpa using fun e' => e e'.symm)]; rfl
theorem timesI_lt {ws : List Int} (hok : WordOk ws) {k : Nat} (h : k < ws.length) : timesI ws k ws[k].natAbs < 2 := by
  have h1 := timesI_succ h ws[k].natAbs
  rw [if_pos rfl] at h1
  have h2 : timesI ws (k + 1) ws[k].natAbs ≤ 2 := Nat.le_trans ((List.take_sublist _ _).filter _).length_le (hok.twice _)
  omega

set_option maxRecDepth 100000 in
set_option maxHeartbeats 2000000 in
theorem valid_ {ws : List Int} (v : Value) (w : World) (h : Rows w v [ws]) (hok : WordOk ws) :
    Calls Tryd.prog 14 #[v] w fun e w' => e = .returned .nilIface ∧ Below w.heap.size w w' := by
  have hle := letters_ v w h hok.few
  obtain ⟨g, o, cap, a, c, rfl, hc, hi⟩ := one_word h
  have HI : Hid (Ints w (.slice a ws.length c) ws) := hi
  have HOK : Hid (WordOk ws) := hok
  obtain ⟨n, hn⟩ : ∃ n, ws.length = n := ⟨_, rfl⟩
  have HN : Hid (ws.length = n) := hn
  have hl1 : 0 < n := by rw [← hn]; exact hok.some
  have hl2 : n ≤ 120 := by rw [← hn]; exact hok.few
  rw [hn] at hc hle
  have hbd : decide ((120 : Int) < (n : Int)) = false := decide_eq_false (by omega)
  have hcc : w.cell? ⟨g, o, none⟩ = some (.slice a n c) := hc
  clear h hi hok hn hc
  go_enter Tryd.func14, Tryd.ntmps14
  go_upto_region 4 with (first
    | (go_at_call 18; refine hle.mono ?_; rintro e V ⟨rfl, rfl⟩; clear hle)
    | fail)
  refine (show Code.wp _ _ _ _ (V.alloc (.cells (Array.replicate 61 (.int .i64 0)) 59)) from ?_)
  have hX0 : (V.alloc (.cells (Array.replicate 61 (.int .i64 0)) 59)).rowIs V.heap.size 59 61 (fun _ => .int .i64 0) := ⟨Array.replicate 61 (.int .i64 0), (Go.MapKept.heap_alloc V _).1, by simp, fun i hi => by rw [Array.getElem?_replicate, if_pos hi]⟩
  have hB0 : Below V.heap.size V (V.alloc (.cells (Array.replicate 61 (.int .i64 0)) 59)) := (Below.refl _ V).alloc (Nat.le_refl _) _
  have hgl : g < V.heap.size := cell_lt hcc
  obtain ⟨X, hX⟩ : ∃ X, V.alloc (.cells (Array.replicate 61 (.int .i64 0)) 59) = X := ⟨_, rfl⟩
  obtain ⟨T, hT⟩ : ∃ T, V.heap.size = T := ⟨_, rfl⟩
  rw [hX, hT] at hX0
  rw [hX] at hB0
  rw [hX, hT]
  have HX : Hid (X.rowIs T 59 61 (fun _ => .int .i64 0) ∧ Below V.heap.size V X ∧ V.heap.size = T) := ⟨hX0, hB0, hT⟩
  have hxc := (hB0.cell (p := ⟨g, o, none⟩) hgl).trans hcc
  clear hX hT hX0 hB0 hcc
  go_wp2_with fail
  go_loopw [15] (fun q W => (q = .int .i64 0 ∧ W = X) ∨ (q = .int .i64 1 ∧ Hid (Below V.heap.size V W))) (fun q _ => 1 - (intOf q).toNat)
  case atStart => exact .inl ⟨rfl, rfl⟩
  case round =>
    obtain ⟨rfl, rfl⟩ | ⟨rfl, HB⟩ := hrel
    · have hn0 : ((n : Int) == 0) = false := beq_false_of_ne (by omega)
      go_wp2_with fail
      go_loopw [25] (fun q W => ∃ k : Nat, k ≤ n ∧ q = .int .i64 k ∧ Hid (W.rowIs T 59 61 (fun j => .int .i64 (timesI ws k j : Int)) ∧ KeepBut wr W T T)) (fun q _ => n - (intOf q).toNat)
      case atStart => exact ⟨0, by omega, rfl, HX.out.1.congr (fun i _ => by simp [timesI]), KeepBut.refl _ _ _⟩
      case round =>
        obtain ⟨k, hk, rfl, HK⟩ := hrel
        by_cases hkn : k < n
        · obtain ⟨a', c', ea, -, hx⟩ := HI.out.open_
          rw [HN.out] at ea hx
          cases ea
          obtain ⟨b, off, rfl, -, hbl, hcell⟩ := hx hl1
          have hkl : k < ws.length := by rw [HN.out]; exact hkn
          obtain ⟨l, hl⟩ : ∃ l, ws[k] = l := ⟨_, rfl⟩
          have hlm := HOK.out.name ws[k] (List.getElem_mem _)
          have htw := timesI_lt HOK.out hkl
          have hst := timesI_succ hkl
          have ck0 := hcell k hkn
          rw [List.getElem?_eq_getElem hkl, Option.getD_some] at ck0
          rw [hl] at hlm htw hst ck0
          have hTe := HX.out.2.2
          have ck := ((HK.out.2.cell (p := ⟨b, off + k, none⟩) (by have := HX.out.2.1.size; simp only; omega) (by simp only; omega) (by simp only; omega)).trans (HX.out.2.1.cell (p := ⟨b, off + k, none⟩) hbl)).trans ck0
          obtain ⟨m, hm⟩ : ∃ m, l.natAbs = m := ⟨_, rfl⟩
          have hna := name_of l (by omega) (by omega)
          have hnm := is_name m (by omega) (by omega)
          rw [hm] at hlm htw hst hna
          have hlb : -1000 ≤ l ∧ l ≤ 1000 := by omega
          have HS : Hid (∀ name, timesI ws (k + 1) name = if name = m then timesI ws k name + 1 else timesI ws k name) := hst
          have cm := HK.out.1.cell (i := m) (by omega)
          have fm := HK.out.1.frozen m
          have z0 : (0 : Int) ≤ (k : Int) := by omega
          have z1 : (k : Int) < (n : Int) := by omega
          have z2 : (0 : Int) ≤ (m : Int) := by omega
          have z3 : (m : Int) < 61 := by omega
          obtain ⟨x, hx2⟩ : ∃ x, timesI ws k m = x := ⟨_, rfl⟩
          have HXX : Hid (timesI ws k m = x) := hx2
          rw [hx2] at cm htw
          have hx3 : ((x : Int) == 2) = false := beq_false_of_ne (by omega)
          clear hx hcell ck0 hl hst hm hx2 hTe
          go_wp2_with (first
            | (go_at_call 19; refine (hna _).mono ?_; rintro e V ⟨rfl, rfl⟩; clear hna)
            | (go_at_call 20; refine (hnm _).mono ?_; rintro e V ⟨rfl, rfl⟩; clear hnm)
            | fail)
          go_roundw
          case rel =>
            refine ⟨k + 1, by omega, by go_num, (HK.out.1.set m _).congr (fun j _ => ?_), HK.out.2.on (grown_at _ _ _) (fun b e => by cases e; exact .inl rfl)⟩
            rw [HS.out j]
            by_cases e : j = m
            · rw [if_pos e, if_pos e, e, HXX.out]; go_num
            · rw [if_neg e, if_neg e]
          case measure => simp [intOf]; omega
        · obtain rfl : k = n := by omega
          go_wp2_with fail
          go_roundw
          case rel =>
            refine .inr ⟨by go_num, ?_⟩
            have hs := HX.out.2.1.size
            have hTe := HX.out.2.2
            exact ⟨HK.out.2.os.trans HX.out.2.1.os, HK.out.2.tape.trans HX.out.2.1.tape, HK.out.2.output.trans HX.out.2.1.output, Nat.le_trans hs HK.out.2.size, fun b hb => (HK.out.2.block b (by omega) (by omega) (by omega)).trans (HX.out.2.1.block b hb)⟩
          case measure => simp [intOf]
    · go_wp2_with fail
      go_ret
      exact ⟨rfl, HB.out⟩

end Go.Proofs.YtkaplnjknobdpaaDoor
