/- The map that holds a complex's faces by their texts: how it reads, and that holds tells whether a face is there. What parts answers: the texts of a face without its vertex 0, 1, .., in new memory. -/
import Derived.Test.YtmndhclmhjmbpaaGreatDoorRefC
import Derived.Maps.OwnSet
import Derived.Maps.RangeWalk
import Derived.Sort.KeysCollected
import Derived.StringKeys
import Derived.Deep.OwnRows
import Derived.Deep.RegionHeld3
namespace Go.Proofs.YtmndhclmhjmbpaaGreatDoor
open Go.RowKit Go.Sort Go.Maps

theorem law_string : Keyed Tryz.prog 9 := string_keyed Tryz.underlying9
theorem zero_int (w : World) : (zeroValue 3).run Tryz.prog w = .ok (.int .i64 0) w := by kernel_rfl
theorem key_of (x : List UInt8) (h : x.length ≤ maxLen) : keyOf Tryz.prog 9 (encStr x) = some (.string x) := by
  have := Go.WideMaps.keyOf_string_mk (P := Tryz.prog) Tryz.underlying9 (s := ⟨x.toArray⟩) (by simpa [ByteArray.size] using h)
  simpa [encStr] using this

/-- Block b is a map that holds the texts F, each with whether it is one of G. -/
def PileAt (w : World) (b : Nat) (F : List (List UInt8)) (G : List UInt8 → Prop) : Prop :=
  ∃ D : DataW Unit, w.ownsMap Tryz.prog 9 (plainElem Tryz.prog 3) b F.length D ∧ (∀ x : List UInt8, Maps.has D (.string x) = true ↔ x ∈ F) ∧ Maps.size D = F.length ∧
    ∀ x ∈ F, (G x → D.atKey (.string x) (.lit (.int .i64 0)) = .lit (.int .i64 1)) ∧ (¬ G x → D.atKey (.string x) (.lit (.int .i64 0)) = .lit (.int .i64 0))

theorem own_tight {H : Type} {w : World} {P : Program} {k : TypeId} {R : Value → Option (DataW H × List MemPlace)} {b n : Nat} {D : DataW H} (h : w.ownsMap P k R b n D) {m : Nat} (hm : Maps.size D ≤ m) : w.ownsMap P k R b m D := by
  obtain ⟨es, clock, h1, h2, _, rfl⟩ := h
  exact ⟨es, clock, h1, h2, by simpa [Maps.size, length_sorted] using hm, rfl⟩

theorem PileAt.kept {w w' : World} {b : Nat} {F : List (List UInt8)} {G : List UInt8 → Prop} {row : Option Nat} (h : PileAt w b F G) (hg : w.grownBy w' row) (hne : some b ≠ row) : PileAt w' b F G := by
  obtain ⟨D, h1, h2⟩ := h
  exact ⟨D, h1.kept hg hne, h2⟩
theorem PileAt.below {w w' : World} {b : Nat} {F : List (List UInt8)} {G : List UInt8 → Prop} (h : PileAt w b F G) (hB : Below w.heap.size w w') : PileAt w' b F G := h.kept (Below.grownBy hB) (by simp)
theorem PileAt.lt {w : World} {b : Nat} {F : List (List UInt8)} {G : List UInt8 → Prop} (h : PileAt w b F G) : b < w.heap.size := by
  obtain ⟨D, h1, _⟩ := h
  exact h1.lt

theorem string_key (x : List UInt8) : WideAt.IsKeyLit (.string x) := trivial
theorem string_ne {x y : List UInt8} (h : x ≠ y) : (Lit.string x) ≠ Lit.string y := fun e => h (by cases e; rfl)

/-- A new face is stored, told as an outer one. -/
theorem pile_new {w' : World} {b n : Nat} {F : List (List UInt8)} {G : List UInt8 → Prop} {D : DataW Unit} {f : List UInt8} (hf : f ∉ F) (hG : ∀ x, G x → x ∈ F) (hD : Tidy D)
    (h2 : ∀ x : List UInt8, Maps.has D (.string x) = true ↔ x ∈ F) (h3 : Maps.size D = F.length)
    (h4 : ∀ x ∈ F, (G x → D.atKey (.string x) (.lit (.int .i64 0)) = .lit (.int .i64 1)) ∧ (¬ G x → D.atKey (.string x) (.lit (.int .i64 0)) = .lit (.int .i64 0)))
    (h1 : w'.ownsMap Tryz.prog 9 (plainElem Tryz.prog 3) b n (D.put (.string f) (.lit (.int .i64 0)))) : PileAt w' b (F ++ [f]) G := by
  have hno : Maps.has D (.string f) = false := by
    cases e : Maps.has D (.string f)
    · rfl
    · exact absurd ((h2 f).1 e) hf
  have hsz : Maps.size (D.put (.string f) (.lit (.int .i64 0))) = (F ++ [f]).length := by rw [size_put hD, hno]; simp [h3]
  refine ⟨_, own_tight h1 (Nat.le_of_eq hsz), fun x => ?_, hsz, fun x hx => ?_⟩
  · by_cases e : x = f
    · subst e; rw [has_put_same hD.isMap (string_key x)]; simp
    · rw [has_put_other (string_ne e), h2]; simp [e]
  · by_cases e : x = f
    · subst e
      rw [atKey_put_same hD.isMap (string_key x)]
      exact ⟨fun h => absurd (hG x h) hf, fun _ => rfl⟩
    · rw [atKey_put_other (string_ne e)]
      exact h4 x (by simpa [e] using hx)

/-- A face that is there is told to be a part. -/
theorem pile_mark {w' : World} {b n : Nat} {F : List (List UInt8)} {G : List UInt8 → Prop} {D : DataW Unit} {f : List UInt8} (hf : f ∈ F) (hD : Tidy D)
    (h2 : ∀ x : List UInt8, Maps.has D (.string x) = true ↔ x ∈ F) (h3 : Maps.size D = F.length)
    (h4 : ∀ x ∈ F, (G x → D.atKey (.string x) (.lit (.int .i64 0)) = .lit (.int .i64 1)) ∧ (¬ G x → D.atKey (.string x) (.lit (.int .i64 0)) = .lit (.int .i64 0)))
    (h1 : w'.ownsMap Tryz.prog 9 (plainElem Tryz.prog 3) b n (D.put (.string f) (.lit (.int .i64 1)))) : PileAt w' b F (fun x => G x ∨ x = f) := by
  have hsz : Maps.size (D.put (.string f) (.lit (.int .i64 1))) = F.length := by rw [size_put hD, (h2 f).2 hf]; simp [h3]
  refine ⟨_, own_tight h1 (Nat.le_of_eq hsz), fun x => ?_, hsz, fun x hx => ?_⟩
  · by_cases e : x = f
    · subst e; rw [has_put_same hD.isMap (string_key x)]; simp [hf]
    · rw [has_put_other (string_ne e), h2]
  · by_cases e : x = f
    · subst e
      rw [atKey_put_same hD.isMap (string_key x)]
      exact ⟨fun _ => rfl, fun h => absurd (.inr rfl) h⟩
    · rw [atKey_put_other (string_ne e)]
      refine ⟨fun h => (h4 x hx).1 (h.elim id (fun h => absurd h e)), fun h => (h4 x hx).2 (fun g => h (.inl g))⟩

theorem holds_ (b : Nat) (F : List (List UInt8)) (G : List UInt8 → Prop) (x : List UInt8) (w : World) (h : PileAt w b F G) (hx : x.length ≤ 1000000) :
    Calls Tryz.prog 128 #[.map (some b), encStr x] w fun e w' => e = .returned (.bool (decide (x ∈ F))) ∧ w' = w := by
  obtain ⟨D, h1, h2, -, -⟩ := h
  have hkey := key_of x (by unfold maxLen; omega)
  have hb : Maps.has D (.string x) = decide (x ∈ F) := by
    cases e : Maps.has D (.string x)
    · exact (decide_eq_false (fun hm => by rw [(h2 x).2 hm] at e; cases e)).symm
    · exact (decide_eq_true ((h2 x).1 e)).symm
  have HB : Hid (Maps.has D (.string x) = decide (x ∈ F)) := hb
  clear hb h2
  go_enter Tryz.func128, Tryz.ntmps128
  go_wp2_with (first
    | (at_lookup; refine wpList_lookup_own_ok_int _ rfl _ _ 71 rfl 9 3 .i64 law_string Tryz.underlying71 Tryz.underlying3 (zero_int _) b _ _ rfl h1 _ _ rfl hkey ?_; intro c hat hwc)
    | go_in)
  go_ret
  exact ⟨by rw [← HB.out]; rfl, rfl⟩

end Go.Proofs.YtmndhclmhjmbpaaGreatDoor

namespace Go.Proofs.YtmndhclmhjmbpaaGreatDoor
open Go.RowKit Go.Sort Go.Maps Go.Deep

theorem erase_text (f : List UInt8) (i : Nat) : (⟨f.toArray⟩ : ByteArray).extract 0 i ++ (⟨f.toArray⟩ : ByteArray).extract (i + 1) f.length = ⟨(f.eraseIdx i).toArray⟩ := by
  apply ByteArray.ext
  simp [List.eraseIdx_eq_take_drop_succ]
  exact List.take_of_length_le (by simp)

set_option maxRecDepth 100000 in
set_option maxHeartbeats 1000000 in
theorem parts_ (f : List UInt8) (w : World) (h0 : 0 < f.length) (hf : f.length ≤ 1000) :
    Calls Tryz.prog 129 #[encStr f] w fun e w' => ∃ v, e = .returned v ∧ StrsIn (fun b => w.heap.size ≤ b) w' v (partsOf f) ∧ Below w.heap.size w w' := by
  obtain ⟨s, hs⟩ : ∃ s : ByteArray, (⟨f.toArray⟩ : ByteArray) = s := ⟨_, rfl⟩
  have hsz : s.size = f.length := by rw [← hs]; rfl
  have he : encStr f = .string s := by rw [← hs, encStr]
  rw [he]
  have HS : Hid ((⟨f.toArray⟩ : ByteArray) = s) := hs
  obtain ⟨n, hn⟩ : ∃ n, f.length = n := ⟨_, rfl⟩
  rw [hn] at hsz hf h0
  have HN : Hid (f.length = n) := hn
  clear hs he hn
  by_cases h1 : n = 1
  · subst h1
    go_enter Tryz.func129, Tryz.ntmps129
    go_wp2
    go_ret
    refine ⟨_, rfl, ?_, Below.refl _ _⟩
    unfold partsOf
    rw [if_pos HN.out]
    exact SliceIn.nil _ _
  · have hmk := run_make_row' (P := Tryz.prog) 129 9 (.string ⟨#[]⟩) 16 Tryz.underlying129 Tryz.info9 rfl .i64 .i64 n (by omega) (by omega)
    go_enter Tryz.func129, Tryz.ntmps129
    go_wp2
    go_loopw [13] (fun p wr => ∃ i : Nat, i ≤ n ∧ p = .int .i64 i ∧ wr.rowIs w.heap.size 9 n (fun j => if j < i then encStr (f.eraseIdx j) else encStr []) ∧ Below w.heap.size w wr)
      (fun p _ => n - (intOf p).toNat)
    case atStart => exact ⟨0, by omega, rfl, (World.rowIs_made _ _ _ _).congr (fun j _ => by simp [encStr]), (Below.refl _ _).alloc (Nat.le_refl _) _⟩
    case round =>
      obtain ⟨i, hi, rfl, hrow, hB⟩ := hrel
      by_cases hlt : i < n
      · have hc := hrow.cell hlt
        have hz := hrow.frozen i
        have HR : Hid (wr.rowIs w.heap.size 9 n (fun j => if j < i then encStr (f.eraseIdx j) else encStr [])) := hrow
        simp only [Nat.lt_irrefl, if_false] at hc
        clear hrow
        have hadd : ∀ W, (Op.stringOp .add (s.extract 0 i) (s.extract (i + 1) n)).run Tryz.prog W = .ok (.string (s.extract 0 i ++ s.extract (i + 1) n)) W := fun W => run_string_add_sum W _ _ (by simp; omega)
        go_wp2_with fail
        go_region
        go_wp2
        go_roundw
        case rel =>
          refine ⟨i + 1, by omega, by go_num, ?_, (hB.setCell (p := ⟨w.heap.size, i, none⟩) (Nat.le_refl _) _).drew⟩
          refine ((HR.out.set i _).drew).congr (fun j _ => ?_)
          by_cases e : j = i
          · subst e
            rw [if_pos rfl, if_pos (Nat.lt_succ_self _)]
            have := erase_text f j
            rw [HN.out, HS.out] at this
            rw [this, encStr]
          · rw [if_neg e]
            by_cases e2 : j < i
            · rw [if_pos e2, if_pos (by omega)]
            · rw [if_neg e2, if_neg (by omega)]
        case measure => simp [intOf]; omega
      · obtain rfl : i = n := by omega
        have HR : Hid (wr.rowIs w.heap.size 9 i (fun j => if j < i then encStr (f.eraseIdx j) else encStr [])) := hrow
        clear hrow
        go_wp2
        go_ret
        refine ⟨_, rfl, ?_, hB⟩
        have hp : partsOf f = (List.range f.length).map f.eraseIdx := by unfold partsOf; rw [if_neg (by rw [HN.out]; exact h1)]
        have hl : ((partsOf f).map encStr).length = i := by rw [hp]; simp [HN.out]
        refine ⟨some ⟨w.heap.size, 0, none⟩, i, by rw [hl]; rfl, ⟨by omega, fun h => by cases h⟩, fun _ => ⟨w.heap.size, 0, rfl, Nat.le_refl _, fun k u hu => ?_⟩⟩
        have hk : k < i := by have := (List.getElem?_eq_some_iff.1 hu).1; omega
        have hc := HR.out.cell hk
        rw [if_pos hk] at hc
        rw [Nat.zero_add, hc, ← hu, hp]
        simp [HN.out, hk]

end Go.Proofs.YtmndhclmhjmbpaaGreatDoor
