/- Attributes, tokens and nodes: plain. -/
namespace Go.Proofs.YtodocdbnflmgnaaDoor

/-- An attribute: its name, its value. -/
abbrev At := List UInt8 × List UInt8
/-- A token. -/
structure Tk where
  kind : Int
  name : List UInt8
  attrs : List At
  text : List UInt8
/-- A node: up is its parent's place. -/
structure Nd where
  name : List UInt8
  attrs : List At
  text : List UInt8
  up : Int
end Go.Proofs.YtodocdbnflmgnaaDoor
