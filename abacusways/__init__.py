"""An abacus: methods, run on numbers or worked on beads by a book."""
