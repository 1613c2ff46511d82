/- maps.Clone, maps.Keys and slices.Sorted at a directory's map. -/
import Derived.Test.YtamngnndodjcoabGreatLay
import Derived.Test.YtamngnndodjcoabGreatHgt
import Derived.Test.YtamngnndodjcoabGreatHnd
namespace Go.Proofs.YtamngnndodjcoabGreat
open Go.RowKit Go.Maps Go.Sort Go.Shelf
open Go.WideElems (Fit rd rg rg_of)

theorem keys_any (mb : Option Nat) (W : World) : Calls Tryz.prog 27 #[.map mb] W fun e w' => e = .returned (.func (.func 37) #[] #[.pointer (some ⟨W.heap.size, 0, none⟩)]) ∧ w' = W.alloc (.cells #[.map mb] 73) :=
  (callsIn_wide (n := 5)).1 (AnyZ.keys_in laysKeys Fence.wide 5 trivial rfl mb W)

theorem sortsAt (m : Nat) : AnyZ.SortsIn Tryz.prog laysSorted_ren Fence.wide m :=
  ⟨fun blk off cap ss W hH hblk hsz => callsIn_wide.2 (AnyM.slices_Sort_string laysSort blk off cap ss W hH hblk hsz),
   fun p cap W => callsIn_wide.2 (AnyM.slices_Sort_string_none laysSort p cap W)⟩

set_option maxHeartbeats 1000000 in
theorem sorted_of {H : Type} (b nn : Nat) (D0 : DataW H) (R : Value → Option (DataW H × List MemPlace)) (w : World) (hown : w.ownsMap Tryz.prog 9 R b nn D0) (hmax : Maps.size D0 ≤ maxLen) (hbytes : Maps.size D0 * 16 ≤ 140737488355328) :
    Calls Tryz.prog 26 #[.func (.func 37) #[] #[.pointer (some ⟨w.heap.size, 0, none⟩)]] (w.alloc (.cells #[.map (some b)] 73)) fun e w' => ∃ (v : Value) (ss : List (List UInt8)), e = .returned v ∧ ss.Perm (strKeys D0) ∧
      w'.ownsRow (w.alloc (.cells #[.map (some b)] 73)).heap.size 9 1 v ss.length ((ss.mergeSort (fun x y => decide (x ≤ y))).map encStr) ∧ (v = .slice none 0 0 ↔ ss = []) ∧ Below (w.alloc (.cells #[.map (some b)] 73)).heap.size (w.alloc (.cells #[.map (some b)] 73)) w' := by
  have hbl := hown.lt
  have hseq : SeqGives Fence.wide 2 Tryz.prog 37 #[.pointer (some ⟨w.heap.size, 0, none⟩)] encStr (fun ss => ss.Perm (strKeys D0)) (Maps.size D0) (w.alloc (.cells #[.map (some b)] 73)) :=
    AnyZ.keys_gives (ρ := laysKeys_ren) { laysKeys with } Fence.wide _ trivial rfl (by omega) w.heap.size b nn D0 _ (by simp) (by simp) (by
      obtain ⟨es, clock, hb, Ft, hs, hD⟩ := hown
      exact ⟨es, clock, (Below.heap_alloc _ _ b hbl).trans hb, Ft, hs, hD⟩)
  exact (callsIn_wide (n := 5)).1 (AnyZ.sorted_in laysSorted Fence.wide 5 trivial trivial trivial trivial rfl (by omega) (sortsAt _) (enters_of Tryz.func36 (by kernel_rfl) rfl) 37 #[.pointer (some ⟨w.heap.size, 0, none⟩)] trivial (enters_of Tryz.func37 (by kernel_rfl) rfl) _ _ hmax hbytes _ hseq)

abbrev R0 : Value → Option (DataW Unit × List MemPlace) := fun _ => some (.nil, [])
theorem ents_key {es : Array MapEntry} {clock : Nat} {L : List KV} (h : Ents es clock L) {x : MapEntry} (hx : x ∈ es.toList) : ∃ p ∈ L, x.key = .string p.1 ∧ x.val = p.2 := by
  have : (x.key, x.val) ∈ L.map (fun p => (Value.string p.1, p.2)) := by rw [← h.kv]; exact List.mem_map.2 ⟨x, hx, rfl⟩
  obtain ⟨p, hp, e⟩ := List.mem_map.1 this
  simp only [Prod.mk.injEq] at e
  exact ⟨p, hp, e.1.symm, e.2.symm⟩
theorem rd_str {x : MapEntry} {s : ByteArray} (h : x.key = .string s) (hs : s.size ≤ maxLen) : rd (H := Unit) Tryz.prog 9 R0 x = some (.string s.data.toList, .nil) := by
  have := WideMaps.keyOf_string_mk (P := Tryz.prog) (k := 9) Tryz.underlying9 hs
  simp [WideElems.rd, h, this]
theorem owns_of {w : World} {mb : Nat} {es : Array MapEntry} {clock : Nat} {L : List KV} (hm : w.heap[mb]? = some (.map es clock)) (h : Ents es clock L) (hl : L.length ≤ maxLen) :
    ∃ D0 : DataW Unit, w.ownsMap Tryz.prog 9 R0 mb L.length D0 ∧ Maps.size D0 = L.length ∧ (strKeys D0).Perm (L.map fun p => p.1.data.toList) := by
  have hF : Fit Tryz.prog 9 R0 es clock := ⟨by rw [h.size]; exact hl, (MapKept.stamped_iff es clock).2 ⟨h.old, h.nod, by
      have h1 : (es.toList.map (fun e => (e.key, e.val))).map (·.1) = L.map (fun p => Value.string p.1) := by rw [h.kv, List.map_map]; rfl
      have h2 : es.toList.map (·.key) = L.map (fun p => Value.string p.1) := by rw [← h1, List.map_map]; rfl
      have h3 : (L.map (fun p => Value.string p.1)).Nodup := by
        have : L.map (fun p => Value.string p.1) = (L.map (·.1)).map Value.string := by rw [List.map_map]; rfl
        rw [this]
        exact List.pairwise_map.2 (h.one.imp (fun {a b} hab e => hab (by injection e)))
      rw [← h2] at h3
      exact List.pairwise_map.1 h3⟩, fun x hx => by
      obtain ⟨p, hp, hk, -⟩ := ents_key h hx
      exact ⟨_, rd_str hk (h.len p hp)⟩⟩
  refine ⟨_, ⟨es, clock, hm, hF, by rw [h.size]; exact Nat.le_refl _, rfl⟩, ?_, ?_⟩
  · rw [Maps.size_eq, (WideShapes.sorted_perm _).length_eq, List.length_map, Array.length_toList, h.size]
  · have hp := (WideShapes.sorted_perm (es.toList.map (rg Tryz.prog 9 R0))).map (fun p : Lit × DataW Unit => strOf p.1)
    refine hp.trans ?_
    rw [List.map_map]
    have h1 : (es.toList.map (fun e => (e.key, e.val))).map (fun q => match q.1 with | Value.string s => s.data.toList | _ => []) = L.map (fun p => p.1.data.toList) := by rw [h.kv, List.map_map]; rfl
    rw [← h1, List.map_map]
    have h2 : es.toList.map ((fun p : Lit × DataW Unit => strOf p.1) ∘ rg Tryz.prog 9 R0) = es.toList.map ((fun q : Value × Value => match q.1 with | Value.string s => s.data.toList | _ => []) ∘ fun e : MapEntry => (e.key, e.val)) := by
      refine List.map_congr_left fun x hx => ?_
      obtain ⟨p, hp, hk, -⟩ := ents_key h hx
      simp only [Function.comp, rg_of (rd_str hk (h.len p hp)), hk, strOf]
    rw [h2]
end Go.Proofs.YtamngnndodjcoabGreat
