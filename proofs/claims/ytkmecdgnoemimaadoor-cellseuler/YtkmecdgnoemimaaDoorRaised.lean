/- What faces answers: the faces of a dimension, in order. What raised answers: texts, each byte raised by so much. -/
import Derived.Test.YtkmecdgnoemimaaDoorLists
import Derived.Test.YtkmecdgnoemimaaDoorGather
import Derived.Test.YtkmecdgnoemimaaDoorBuilt
import Derived.Deep.AppendLies
import Derived.Lib.ConvBytes
namespace Go.Proofs.YtkmecdgnoemimaaDoor
open Go.RowKit Go.Sort Go.Maps

theorem beq_decide (a b : Int) : (a == b) = decide (a = b) := by
  by_cases h : a = b
  · subst h; simp
  · rw [decide_eq_false h, beq_false_of_ne h]

theorem of_dim_ (x : List UInt8) (dim : Int) (Bx : Nat) (w : World) (hB : w.cell? ⟨Bx, 0, none⟩ = some (.int .i64 dim)) (hl : x.length ≤ 1000) :
    Calls Tryd.prog 51 #[encStr x, .pointer (some ⟨Bx, 0, none⟩)] w fun e w' => e = .returned (.bool (decide ((x.length : Int) - 1 = dim))) ∧ w' = w := by
  have hsz : (⟨x.toArray⟩ : ByteArray).size = x.length := by simp [ByteArray.size]
  show Calls Tryd.prog 51 #[.string ⟨x.toArray⟩, .pointer (some ⟨Bx, 0, none⟩)] w _
  go_enter Tryd.func51, Tryd.ntmps51
  go_wp2
  go_ret
  exact ⟨by show Ending.returned (.bool ((x.length : Int) - 1 == dim)) = _; rw [beq_decide], rfl⟩

/-- What faces answers. -/
def FacesSays (F : List (List UInt8)) (dim : Int) (w : World) (e : Ending) (w' : World) : Prop :=
  ∃ v ss, e = .returned v ∧ StrsIn (fun b => w.heap.size ≤ b) w' v (srtS ss) ∧ ss.Nodup ∧ (∀ x, x ∈ ss ↔ x ∈ F ∧ (x.length : Int) - 1 = dim) ∧ Below w.heap.size w w'

set_option maxRecDepth 100000 in
theorem faces_ (b : Nat) (F : List (List UInt8)) (G : List UInt8 → Prop) (dim : Int) (w : World) (hP : PileAt w b F G) (hF : F.length ≤ 100000) (hx : ∀ x ∈ F, x.length ≤ 1000) :
    Calls Tryd.prog 26 #[.map (some b), .int .i64 dim] w fun e w' => FacesSays F dim w e w' := by
  have hP1 := hP.below ((Below.refl _ w).alloc (Nat.le_refl _) (.cells #[.int .i64 dim] 3))
  have hbox := box_new w (.int .i64 dim) 3
  have hkept := kept_ b F G 51 #[.pointer (some ⟨w.heap.size, 0, none⟩)] (fun x => decide ((x.length : Int) - 1 = dim)) (w.alloc (.cells #[.int .i64 dim] 3)) hP1 hF hx (enters_of Tryd.func51 (by kernel_rfl) rfl)
    (fun x hxF W hW => of_dim_ x dim w.heap.size W ((hW.cell (p := ⟨w.heap.size, 0, none⟩) (by simp)).trans hbox.1) (hx x hxF))
  clear hP1
  have hb := hbox.1
  clear hbox
  go_enter Tryd.func26, Tryd.ntmps26
  go_wp2_with fail
  refine hkept.mono ?_
  rintro e w2 ⟨v, ss, rfl, h1, h2, h3, h4⟩
  go_wp2
  go_ret
  refine ⟨_, ss, rfl, h1.mono (fun b _ h => by simp at h; omega), h2, fun x => by rw [h3]; simp, ((Below.refl _ w).alloc (Nat.le_refl _) _).trans (h4.mono (by simp))⟩

end Go.Proofs.YtkmecdgnoemimaaDoor

namespace Go.Proofs.YtkmecdgnoemimaaDoor
open Go.RowKit Go.Sort Go.Maps

/-- Block g holds the bytes x, to be written. -/
def BytesAt (W : World) (g : Nat) (x : List UInt8) : Prop := ∀ (j : Nat) (c : UInt8), x[j]? = some c → W.cell? ⟨g, j, none⟩ = some (.int .u8 (c.toNat : Int)) ∧ W.frozen? ⟨g, j, none⟩ = false

theorem bytes_made (w : World) (x : List UInt8) : ∃ cap w', (convert 9 88 (encStr x)).run Tryd.prog w = .ok (.slice (some ⟨w.heap.size, 0, none⟩) x.length cap) w' ∧ BytesAt w' w.heap.size x ∧ Below w.heap.size w w' ∧ w'.heap.size = w.heap.size + 1 := by
  refine ⟨_, _, Lib.run_convert_string_bytes w 9 88 5 ⟨x.toArray⟩ Tryd.underlying9 Tryd.underlying88 Tryd.underlying5, fun j c hj => ⟨?_, ?_⟩, ⟨rfl, rfl, rfl, ?_, fun j hj => Lib.bytesWorld_at_old w _ _ j hj⟩, Lib.bytesWorld_size w _ _⟩
  · have hl : j < x.length := (List.getElem?_eq_some_iff.1 hj).1
    rw [Lib.bytesWorld_cell w _ _ j (by simpa [ByteArray.size] using hl)]
    simp [List.getD, hj]
  · have hl : j < x.length := (List.getElem?_eq_some_iff.1 hj).1
    have hl' : j < (Lib.bytesCells w 5 ⟨x.toArray⟩).size := by simp [Lib.bytesCells]; omega
    simp [World.frozen?, Lib.bytesWorld_at_new]
    omega
  · rw [Lib.bytesWorld_size]; omega
theorem BytesAt.below {W W' : World} {g : Nat} {x : List UInt8} (h : BytesAt W g x) (hg : g < W.heap.size) (hB : Below W.heap.size W W') : BytesAt W' g x := fun j c hj =>
  ⟨(hB.cell (p := ⟨g, j, none⟩) hg).trans (h j c hj).1, (hB.frozen (p := ⟨g, j, none⟩) hg).trans (h j c hj).2⟩
theorem BytesAt.set {W : World} {g : Nat} {x : List UInt8} (h : BytesAt W g x) {k : Nat} (hk : k < x.length) (c : UInt8) : BytesAt (W.setCell ⟨g, k, none⟩ (.int .u8 (c.toNat : Int))) g (x.set k c) := fun j d hj => by
  rw [World.frozen?_setCell]
  by_cases e : j = k
  · subst e
    rw [List.getElem?_set_self hk] at hj
    obtain rfl : c = d := by simpa using hj
    refine ⟨World.cell?_setCell_same' _ _ _ ?_, (h j x[j] (List.getElem?_eq_getElem hk)).2⟩
    rw [(h j x[j] (List.getElem?_eq_getElem hk)).1]; rfl
  · rw [List.getElem?_set_ne (fun e' => e e'.symm)] at hj
    rw [World.cell?_setCell_other _ _ _ _ (fun e' => e (by cases e'; rfl))]
    exact h j d hj
theorem bytes_back {W : World} {g cap n : Nat} {x : List UInt8} (h : BytesAt W g x) (hn : x.length = n) : (convert 88 9 (.slice (some ⟨g, 0, none⟩) n cap)).run Tryd.prog W = .ok (encStr x) W := by
  subst hn
  refine run_convert_bytes_back W 88 9 5 ⟨g, 0, none⟩ cap x Tryd.underlying88 Tryd.underlying5 Tryd.underlying9 (fun j hj => ?_)
  rw [Addr.add_lit, Nat.zero_add]
  exact (h j x[j] (List.getElem?_eq_getElem hj)).1

/-- The first k bytes raised. -/
def raiseTo (up k : Nat) (x : List UInt8) : List UInt8 := raiseU up (x.take k) ++ x.drop k
theorem raiseTo_zero (up : Nat) (x : List UInt8) : raiseTo up 0 x = x := by simp [raiseTo, raiseU]
theorem raiseTo_all (up : Nat) (x : List UInt8) : raiseTo up x.length x = raiseU up x := by simp [raiseTo]
theorem raiseTo_length (up k : Nat) (x : List UInt8) : (raiseTo up k x).length = x.length := by simp [raiseTo, raiseU]; omega
theorem raiseTo_get {up k : Nat} {x : List UInt8} (hk : k < x.length) : (raiseTo up k x)[k]? = some x[k] := by
  unfold raiseTo raiseU
  rw [List.getElem?_append_right (by simp; omega)]
  simp [Nat.min_eq_left (Nat.le_of_lt hk), hk]
theorem raiseTo_succ {up k : Nat} {x : List UInt8} (hk : k < x.length) : raiseTo up (k + 1) x = (raiseTo up k x).set k (x[k] + UInt8.ofNat up) := by
  unfold raiseTo raiseU
  rw [List.take_add_one, List.getElem?_eq_getElem hk, List.drop_eq_getElem_cons hk, List.map_append, List.set_append_right (s := (x.take k).map (fun b => b + UInt8.ofNat up)) k _ (by simp; omega)]
  simp [Nat.min_eq_left (Nat.le_of_lt hk)]
  rw [List.drop_eq_getElem_cons hk]; rfl

theorem raised_snoc {up : Nat} {fs : List (List UInt8)} {k : Nat} (hk : k < fs.length) : (fs.take (k + 1)).map (raiseU up) = (fs.take k).map (raiseU up) ++ [raiseU up (fs[k]?.getD [])] := by
  rw [List.take_add_one, List.getElem?_eq_getElem hk, List.map_append, Option.getD_some]; rfl

set_option maxRecDepth 100000 in
set_option maxHeartbeats 2000000 in
theorem raised_ (vf : Value) (fs : List (List UInt8)) (up : Nat) (w : World) (hf : Strs w vf fs) (hn : fs.length ≤ 100000) (hx : ∀ x ∈ fs, x.length ≤ 1000) (hu : up ≤ 100) (hc : ∀ x ∈ fs, ∀ c ∈ x, c.toNat + up ≤ 255) :
    Calls Tryd.prog 41 #[vf, .int .i64 up] w fun e w' => ∃ v, e = .returned v ∧ StrsIn (fun b => w.heap.size ≤ b) w' v (fs.map (raiseU up)) ∧ Below w.heap.size w w' := by
  have HX : Hid ((∀ x ∈ fs, x.length ≤ 1000) ∧ ∀ x ∈ fs, ∀ c ∈ x, c.toNat + up ≤ 255) := ⟨hx, hc⟩
  obtain ⟨a0, ca, rfl, -, ha⟩ := hf.open_
  obtain ⟨n, hnn⟩ : ∃ n, fs.length = n := ⟨_, rfl⟩
  have HN : Hid (fs.length = n) := hnn
  rw [hnn] at hn ⊢
  rw [hnn] at ha
  have hmk := run_make_row' (P := Tryd.prog) 52 9 (.string ⟨#[]⟩) 16 Tryd.underlying52 Tryd.info9 rfl .i64 .i64 n (by omega) (by omega)
  clear hx hc hnn hf
  go_enter Tryd.func41, Tryd.ntmps41
  go_wp2
  go_loopw [15] (fun p wr => ∃ (k : Nat) (ts : List (List UInt8)), k ≤ n ∧ p = .int .i64 k ∧ ts = (fs.take k).map (raiseU up) ∧ wr.rowIs w.heap.size 9 n (fun j => encStr (ts[j]?.getD [])) ∧ Below w.heap.size w wr)
    (fun p _ => n - (intOf p).toNat)
  case atStart => exact ⟨0, [], by omega, rfl, by simp, (World.rowIs_made _ _ _ _).congr (fun j _ => by simp [encStr]), (Below.refl _ _).alloc (Nat.le_refl _) _⟩
  case round =>
    obtain ⟨k, ts, hk, rfl, hts, hrow, hB⟩ := hrel
    obtain ⟨wo, hwo⟩ : ∃ wo : World, wo = wr := ⟨_, rfl⟩
    subst hwo
    have HTS : Hid (ts = (fs.take k).map (raiseU up)) := hts
    have HTL : Hid (ts.length = k) := by
      show ts.length = k
      have := HN.out
      rw [hts]; simp; omega
    have HR : Hid (wo.rowIs w.heap.size 9 n (fun j => encStr (ts[j]?.getD []))) := hrow
    clear hts
    by_cases hlt : k < n
    · have hkl : k < fs.length := by rw [HN.out]; exact hlt
      obtain ⟨b, o, rfl, -, hb, c⟩ := ha (by omega)
      have g1 := c k hlt
      have hmem : fs[k]?.getD [] ∈ fs := by rw [List.getElem?_eq_getElem hkl]; simp
      obtain ⟨x, hxe⟩ : ∃ x, fs[k]?.getD [] = x := ⟨_, rfl⟩
      rw [hxe] at g1 hmem
      have hxl := HX.out.1 x hmem
      have HXC : Hid (∀ c ∈ x, c.toNat + up ≤ 255) := HX.out.2 x hmem
      have HXE : Hid (fs[k]?.getD [] = x) := hxe
      have g2 : wo.cell? ⟨b, o + k, none⟩ = some (encStr x) := (hB.cell (p := ⟨b, o + k, none⟩) hb).trans g1
      obtain ⟨cap, w1, hcv, hby, hB1, hsz1⟩ := bytes_made wo x
      obtain ⟨s, hs⟩ : ∃ s : ByteArray, encStr x = .string s := ⟨_, rfl⟩
      rw [hs] at g2 hcv
      have HBY : Hid (BytesAt w1 wo.heap.size x) := hby
      have HB1 : Hid (Below wo.heap.size wo w1) := hB1
      clear c ha g1 hxe hrow hmem hs hby hB1
      go_wp2
      go_loopw [24] (fun p W => ∃ m : Nat, m ≤ x.length ∧ p = .int .i64 m ∧ BytesAt W wo.heap.size (raiseTo up m x) ∧ Below wo.heap.size wo W ∧ W.heap.size = wo.heap.size + 1)
        (fun p _ => x.length - (intOf p).toNat)
      case atStart => exact ⟨0, by omega, rfl, by rw [raiseTo_zero]; exact HBY.out, HB1.out, hsz1⟩
      case round =>
        obtain ⟨m, hm, rfl, hby, hB2, hsz2⟩ := hrel
        have HBY2 : Hid (BytesAt wr wo.heap.size (raiseTo up m x)) := hby
        clear hby HBY HB1 hcv
        by_cases hmx : m < x.length
        · have hg := HBY2.out m x[m] (raiseTo_get hmx)
          have HSU : Hid (raiseTo up (m + 1) x = (raiseTo up m x).set m (x[m] + UInt8.ofNat up)) := raiseTo_succ hmx
          have hcu := HXC.out x[m] (List.getElem_mem hmx)
          obtain ⟨z, hz⟩ : ∃ z, x[m] = z := ⟨_, rfl⟩
          rw [hz] at hg HSU hcu
          have hgc := hg.1
          have hgf := hg.2
          have HSE := (HBY2.out.set (k := m) (by rw [raiseTo_length]; exact hmx) (z + UInt8.ofNat up))
          have HZ : Hid ((z + UInt8.ofNat up).toNat = z.toNat + up) := by
            show (z + UInt8.ofNat up).toNat = z.toNat + up
            rw [UInt8.toNat_add, UInt8.toNat_ofNat']
            omega
          rw [HZ.out, ← HSU.out, Int.natCast_add] at HSE
          have HS2 : Hid (BytesAt (wr.setCell ⟨wo.heap.size, m, none⟩ (.int .u8 ((z.toNat : Int) + (up : Int)))) wo.heap.size (raiseTo up (m + 1) x)) := HSE
          have hn0 : (0 : Int) ≤ (m : Int) := by omega
          clear hg HSE hz
          go_wp2
          go_roundw
          case rel => exact ⟨m + 1, by omega, by go_num, HS2.out, hB2.setCell (p := ⟨wo.heap.size, m, none⟩) (Nat.le_refl _) _, by rw [World.size_setCell]; exact hsz2⟩
          case measure => simp [intOf]; omega
        · obtain rfl : m = x.length := by omega
          have hba := bytes_back (cap := cap) HBY2.out (raiseTo_length up _ x)
          rw [raiseTo_all] at hba
          obtain ⟨st, hst⟩ : ∃ s : ByteArray, encStr (raiseU up x) = .string s := ⟨_, rfl⟩
          rw [hst] at hba
          have HST : Hid (encStr (raiseU up x) = .string st) := hst
          have hrow2 : wr.rowIs w.heap.size 9 n (fun j => encStr (ts[j]?.getD [])) := HR.out.of_block (hB2.block _ HR.out.lt)
          have HR2 : Hid (wr.rowIs w.heap.size 9 n (fun j => encStr (ts[j]?.getD []))) := hrow2
          have hcell := hrow2.cell hlt
          have hfz := hrow2.frozen k
          have hB3 : Below w.heap.size w wr := hB.trans (hB2.mono hB.size)
          clear hrow2 hst
          go_wp2
          go_roundw
          case rel =>
            refine ⟨k + 1, ts ++ [raiseU up x], by omega, by go_num, by rw [raised_snoc hkl, HXE.out, HTS.out], ?_, hB3.setCell (p := ⟨w.heap.size, k, none⟩) (Nat.le_refl _) _⟩
            refine (HR2.out.set k _).congr (fun j _ => ?_)
            by_cases e : j = k
            · subst e
              rw [if_pos rfl, ← HST.out, List.getElem?_append_right (by rw [HTL.out]; exact Nat.le_refl _)]
              simp [HTL.out]
            · rw [if_neg e]
              by_cases e2 : j < k
              · rw [List.getElem?_append_left (by rw [HTL.out]; exact e2)]
              · rw [List.getElem?_eq_none (by rw [HTL.out]; omega), List.getElem?_eq_none (by simp [HTL.out]; omega)]
          case measure => simp [intOf]; omega
    · obtain rfl : k = n := by omega
      have hln := HN.out
      have hts := HTS.out
      rw [List.take_of_length_le (by omega)] at hts
      have HI : Hid (StrsIn (fun b => w.heap.size ≤ b) wo (.slice (some ⟨w.heap.size, 0, none⟩) k k) (fs.map (raiseU up))) := by
        refine ⟨some ⟨w.heap.size, 0, none⟩, k, by simp [hln], ⟨by simp [hln], fun h => by cases h⟩, fun h0 => ⟨w.heap.size, 0, rfl, Nat.le_refl _, fun j u hu => ?_⟩⟩
        have hj : j < fs.length := by
          have := (List.getElem?_eq_some_iff.1 hu).1
          simpa using this
        rw [Nat.zero_add, HR.out.cell (show j < k by omega), hts]
        rw [List.getElem?_map] at hu
        simp [hj] at hu ⊢
        exact hu
      clear hrow ha hln hts
      go_wp2
      go_ret
      exact ⟨_, rfl, HI.out, hB⟩

end Go.Proofs.YtkmecdgnoemimaaDoor
