/- The map that holds a complex's faces by their texts: how it reads, and that holds tells whether a face is there. -/
import Derived.Test.YtklagnmkfbjagaaGreatDoorRefC
import Derived.Maps.OwnSet
import Derived.Maps.RangeWalk
import Derived.Sort.KeysCollected
import Derived.StringKeys
namespace Go.Proofs.YtklagnmkfbjagaaGreatDoor
open Go.RowKit Go.Sort Go.Maps

theorem law_string : Keyed Tryz.prog 9 := string_keyed Tryz.underlying9
theorem zero_int (w : World) : (zeroValue 3).run Tryz.prog w = .ok (.int .i64 0) w := by kernel_rfl
theorem key_of (x : List UInt8) (h : x.length ≤ maxLen) : keyOf Tryz.prog 9 (encStr x) = some (.string x) := by
  have := Go.WideMaps.keyOf_string_mk (P := Tryz.prog) Tryz.underlying9 (s := ⟨x.toArray⟩) (by simpa [ByteArray.size] using h)
  simpa [encStr] using this

/-- Block b is a map that holds the texts F, each with whether it is one of G. -/
def PileAt (w : World) (b : Nat) (F : List (List UInt8)) (G : List UInt8 → Prop) : Prop :=
  ∃ D : DataW Unit, w.ownsMap Tryz.prog 9 (plainElem Tryz.prog 3) b F.length D ∧ (∀ x : List UInt8, Maps.has D (.string x) = true ↔ x ∈ F) ∧ Maps.size D = F.length ∧
    ∀ x ∈ F, (G x → D.atKey (.string x) (.lit (.int .i64 0)) = .lit (.int .i64 1)) ∧ (¬ G x → D.atKey (.string x) (.lit (.int .i64 0)) = .lit (.int .i64 0))

theorem own_tight {H : Type} {w : World} {P : Program} {k : TypeId} {R : Value → Option (DataW H × List MemPlace)} {b n : Nat} {D : DataW H} (h : w.ownsMap P k R b n D) {m : Nat} (hm : Maps.size D ≤ m) : w.ownsMap P k R b m D := by
  obtain ⟨es, clock, h1, h2, _, rfl⟩ := h
  exact ⟨es, clock, h1, h2, by simpa [Maps.size, length_sorted] using hm, rfl⟩

theorem PileAt.kept {w w' : World} {b : Nat} {F : List (List UInt8)} {G : List UInt8 → Prop} {row : Option Nat} (h : PileAt w b F G) (hg : w.grownBy w' row) (hne : some b ≠ row) : PileAt w' b F G := by
  obtain ⟨D, h1, h2⟩ := h
  exact ⟨D, h1.kept hg hne, h2⟩
theorem PileAt.below {w w' : World} {b : Nat} {F : List (List UInt8)} {G : List UInt8 → Prop} (h : PileAt w b F G) (hB : Below w.heap.size w w') : PileAt w' b F G := h.kept (Below.grownBy hB) (by simp)
theorem PileAt.lt {w : World} {b : Nat} {F : List (List UInt8)} {G : List UInt8 → Prop} (h : PileAt w b F G) : b < w.heap.size := by
  obtain ⟨D, h1, _⟩ := h
  exact h1.lt

theorem string_key (x : List UInt8) : WideAt.IsKeyLit (.string x) := trivial
theorem string_ne {x y : List UInt8} (h : x ≠ y) : (Lit.string x) ≠ Lit.string y := fun e => h (by cases e; rfl)

/-- A new face is stored, told as an outer one. -/
theorem pile_new {w' : World} {b n : Nat} {F : List (List UInt8)} {G : List UInt8 → Prop} {D : DataW Unit} {f : List UInt8} (hf : f ∉ F) (hG : ∀ x, G x → x ∈ F) (hD : Tidy D)
    (h2 : ∀ x : List UInt8, Maps.has D (.string x) = true ↔ x ∈ F) (h3 : Maps.size D = F.length)
    (h4 : ∀ x ∈ F, (G x → D.atKey (.string x) (.lit (.int .i64 0)) = .lit (.int .i64 1)) ∧ (¬ G x → D.atKey (.string x) (.lit (.int .i64 0)) = .lit (.int .i64 0)))
    (h1 : w'.ownsMap Tryz.prog 9 (plainElem Tryz.prog 3) b n (D.put (.string f) (.lit (.int .i64 0)))) : PileAt w' b (F ++ [f]) G := by
  have hno : Maps.has D (.string f) = false := by
    cases e : Maps.has D (.string f)
    · rfl
    · exact absurd ((h2 f).1 e) hf
  have hsz : Maps.size (D.put (.string f) (.lit (.int .i64 0))) = (F ++ [f]).length := by rw [size_put hD, hno]; simp [h3]
  refine ⟨_, own_tight h1 (Nat.le_of_eq hsz), fun x => ?_, hsz, fun x hx => ?_⟩
  · by_cases e : x = f
    · subst e; rw [has_put_same hD.isMap (string_key x)]; simp
    · rw [has_put_other (string_ne e), h2]; simp [e]
  · by_cases e : x = f
    · subst e
      rw [atKey_put_same hD.isMap (string_key x)]
      exact ⟨fun h => absurd (hG x h) hf, fun _ => rfl⟩
    · rw [atKey_put_other (string_ne e)]
      exact h4 x (by simpa [e] using hx)

/-- A face that is there is told to be a part. -/
theorem pile_mark {w' : World} {b n : Nat} {F : List (List UInt8)} {G : List UInt8 → Prop} {D : DataW Unit} {f : List UInt8} (hf : f ∈ F) (hD : Tidy D)
    (h2 : ∀ x : List UInt8, Maps.has D (.string x) = true ↔ x ∈ F) (h3 : Maps.size D = F.length)
    (h4 : ∀ x ∈ F, (G x → D.atKey (.string x) (.lit (.int .i64 0)) = .lit (.int .i64 1)) ∧ (¬ G x → D.atKey (.string x) (.lit (.int .i64 0)) = .lit (.int .i64 0)))
    (h1 : w'.ownsMap Tryz.prog 9 (plainElem Tryz.prog 3) b n (D.put (.string f) (.lit (.int .i64 1)))) : PileAt w' b F (fun x => G x ∨ x = f) := by
  have hsz : Maps.size (D.put (.string f) (.lit (.int .i64 1))) = F.length := by rw [size_put hD, (h2 f).2 hf]; simp [h3]
  refine ⟨_, own_tight h1 (Nat.le_of_eq hsz), fun x => ?_, hsz, fun x hx => ?_⟩
  · by_cases e : x = f
    · subst e; rw [has_put_same hD.isMap (string_key x)]; simp [hf]
    · rw [has_put_other (string_ne e), h2]
  · by_cases e : x = f
    · subst e
      rw [atKey_put_same hD.isMap (string_key x)]
      exact ⟨fun _ => rfl, fun h => absurd (.inr rfl) h⟩
    · rw [atKey_put_other (string_ne e)]
      refine ⟨fun h => (h4 x hx).1 (h.elim id (fun h => absurd h e)), fun h => (h4 x hx).2 (fun g => h (.inl g))⟩

theorem holds_ (b : Nat) (F : List (List UInt8)) (G : List UInt8 → Prop) (x : List UInt8) (w : World) (h : PileAt w b F G) (hx : x.length ≤ 1000000) :
    Calls Tryz.prog 71 #[.map (some b), encStr x] w fun e w' => e = .returned (.bool (decide (x ∈ F))) ∧ w' = w := by
  obtain ⟨D, h1, h2, -, -⟩ := h
  have hkey := key_of x (by unfold maxLen; omega)
  have hb : Maps.has D (.string x) = decide (x ∈ F) := by
    cases e : Maps.has D (.string x)
    · exact (decide_eq_false (fun hm => by rw [(h2 x).2 hm] at e; cases e)).symm
    · exact (decide_eq_true ((h2 x).1 e)).symm
  have HB : Hid (Maps.has D (.string x) = decide (x ∈ F)) := hb
  clear hb h2
  go_enter Tryz.func71, Tryz.ntmps71
  go_wp2_with (first
    | (at_lookup; refine wpList_lookup_own_ok_int _ rfl _ _ 63 rfl 9 3 .i64 law_string Tryz.underlying63 Tryz.underlying3 (zero_int _) b _ _ rfl h1 _ _ rfl hkey ?_; intro c hat hwc)
    | go_in)
  go_ret
  exact ⟨by rw [← HB.out]; rfl, rfl⟩

end Go.Proofs.YtklagnmkfbjagaaGreatDoor
